import Derived.KernelRfl
import Derived.Laws.BytesArg
import Derived.Laws.StructEq
import Derived.RangeFuncLeaves
import Derived.RangeFuncRecord
import Derived.Test.YtakncchgcbnfeaaProg
import Derived.Test.YtakncchgcbnfeaaRows
import Derived.WalkKit
import Derived.Test.YtakncchgcbnfeaaAmB
import Derived.Test.YtakncchgcbnfeaaAmG
import Derived.Test.YtakncchgcbnfeaaAmModel
import Derived.Test.YtakncchgcbnfeaaAmRel
import Derived.Test.YtakncchgcbnfeaaAmOps6
import Derived.Test.YtakncchgcbnfeaaAmCode
import Derived.Test.YtakncchgcbnfeaaAmDraw5
import Derived.Test.YtakncchgcbnfeaaAmEq
set_option linter.unusedVariables false
set_option linter.unusedSimpArgs false
set_option linter.unusedSectionVars false
namespace Go.AM
open Go Go.Proofs
noncomputable def E : Env where
  P := Try.prog
  pure := fun f => [12,13,14,15,18,19,20,22,23,24,25,26,36,37,39,40,41,43,45,46,47,48,49,50,51,52,55,56,57,58,59,62,63,64,67,73,74,75,76,79,80,82,85,86,87,88,89,90,91,93,94,95,96,103,104,108,109,110,111,112,113,115,124,125,126,127,128,130].contains f
  eqt := fun t => if t == 65 then [0, 2] else if t == 69 then [0, 2, 4] else if t == 67 then [0, 2, 4] else if t == 76 then [0, 2, 4, 6] else if t == 79 then [0, 2, 4, 6, 8, 10, 12, 14, 16, 18, 20, 22, 24, 26, 28, 30, 32, 34, 36] else []
  live := fun _ _ => none
def fieldSum (P : Program) (t : TypeId) : List (Nat × Nat × Bool) := (P.fieldsOf t).toList.map fun f => (f.type, f.offset, f.name == "_")
theorem flat_of {P : Program} {t : TypeId} {l : List (Nat × Nat × Bool)} {k : IntKind} (h1 : P.underlying t = some (.struct (P.fieldsOf t))) (h2 : P.stoodInHeld t = false) (h3 : P.eqGuardType P.depth t = false)
    (h3' : P.underlying 3 = some (.int k)) (h4' : P.underlying 4 = some .bool) (h4 : fieldSum P t = l) (h5 : ∀ q ∈ l, (q.1 = 3 ∨ q.1 = 4) ∧ q.2.2 = false) : flatFields P t (l.map fun q => 2 * q.2.1 + (if q.1 = 4 then 1 else 0)) := by
  have b3 : isBoolT P 3 = 0 := by unfold isBoolT; rw [h3']
  have b4 : isBoolT P 4 = 1 := by unfold isBoolT; rw [h4']
  have hq : ∀ f ∈ (P.fieldsOf t).toList, ((f.type = 3 ∨ f.type = 4) ∧ (f.name == "_") = false) := fun f hf =>
    h5 (f.type, f.offset, f.name == "_") (by rw [← h4]; exact List.mem_map.2 ⟨f, hf, rfl⟩)
  refine ⟨⟨h1, h2, h3⟩, ?_, fun f hf => ?_⟩
  · rw [← h4]
    unfold fieldSum
    rw [List.map_map]
    refine List.map_congr_left fun f hf => ?_
    rcases (hq f hf).1 with e | e
    · simp [e, b3]
    · simp [e, b4]
  · obtain ⟨e1, e2⟩ := hq f hf
    simp only [beq_eq_false_iff_ne] at e2
    refine ⟨?_, e2⟩
    rcases e1 with e | e
    · exact .inl ⟨⟨k, by rw [e]; exact h3'⟩, by rw [e]; exact b3⟩
    · exact .inr ⟨by rw [e]; exact h4', by rw [e]; exact b4⟩
theorem u3 : Try.prog.underlying 3 = some (.int .i64) := by kernel_rfl
theorem u4 : Try.prog.underlying 4 = some .bool := by kernel_rfl
theorem fl65 : flatFields Try.prog 65 [0, 2] := flat_of (l := [(3,0,false),(3,1,false)]) (by kernel_rfl) (by kernel_rfl) (by kernel_rfl) u3 u4 (by kernel_rfl) (by simp)
theorem fl69 : flatFields Try.prog 69 [0, 2, 4] := flat_of (l := [(3,0,false),(3,1,false),(3,2,false)]) (by kernel_rfl) (by kernel_rfl) (by kernel_rfl) u3 u4 (by kernel_rfl) (by simp)
theorem ae67 (d : Nat) : AEq Try.prog (d + 2) 67 [0, 2, 4] := aeq_array (len := 3) (elem := 3) (n := 1) (is := [0]) (by kernel_rfl) (by kernel_rfl) (peq_int u3 d)
theorem ae76 (d : Nat) : AEq Try.prog (d + 2) 76 [0, 2, 4, 6] := aeq_array (len := 4) (elem := 3) (n := 1) (is := [0]) (by kernel_rfl) (by kernel_rfl) (peq_int u3 d)
theorem pe76 (d : Nat) : PEq Try.prog (d + 2) 76 [0, 2, 4, 6] := PEq.of_agg (n := 4) (by kernel_rfl) (by kernel_rfl) (by decide) (ae76 d)
theorem ae77 (d : Nat) : AEq Try.prog (d + 3) 77 [0, 2, 4, 6, 8, 10, 12, 14, 16, 18, 20, 22, 24, 26, 28, 30] := aeq_array (len := 4) (elem := 76) (n := 4) (is := [0, 2, 4, 6]) (by kernel_rfl) (by kernel_rfl) (pe76 d)
theorem pe77 (d : Nat) : PEq Try.prog (d + 3) 77 [0, 2, 4, 6, 8, 10, 12, 14, 16, 18, 20, 22, 24, 26, 28, 30] := PEq.of_agg (n := 16) (by kernel_rfl) (by kernel_rfl) (by decide) (ae77 d)
/-- A struct's fields, by their types, places and names. -/
theorem aeq_fields {P : Program} {t : TypeId} {d : Nat} {l : List (Nat × Nat × Bool)} (ht : P.underlying t = some (.struct (P.fieldsOf t))) (hp : P.stoodInHeld t = false) (h4 : fieldSum P t = l) (g : Nat → List Nat)
    (h : ∀ q ∈ l, PEq P d q.1 (g q.1) ∧ q.2.2 = false) : AEq P (d + 1) t (l.flatMap fun q => (g q.1).map (· + 2 * q.2.1)) := by
  have hz : (P.fieldsOf t).toList.zip ((P.fieldsOf t).toList.map fun f => g f.type) = (P.fieldsOf t).toList.map fun f => (f, g f.type) := by
    generalize (P.fieldsOf t).toList = fs
    induction fs with
    | nil => rfl
    | cons f fs ih => simp [ih]
  have := aeq_struct (d := d) ht hp (iss := (P.fieldsOf t).toList.map fun f => g f.type) (by simp) (by
    rw [hz]
    intro p hp
    obtain ⟨f, hf, rfl⟩ := List.mem_map.1 hp
    have := h (f.type, f.offset, f.name == "_") (by rw [← h4]; exact List.mem_map.2 ⟨f, hf, rfl⟩)
    refine ⟨this.1, ?_⟩
    have h2 := this.2
    simpa using h2)
  rw [hz, List.flatMap_map] at this
  rw [← h4]
  unfold fieldSum
  rw [List.flatMap_map]
  exact this
theorem ae23 (d : Nat) : AEq Try.prog (d + 2) 23 [0, 2, 4] := aeq_fields (l := [(3,0,false),(3,1,false),(3,2,false)]) (by kernel_rfl) (by kernel_rfl) (by kernel_rfl) (fun _ => [0]) (by
  intro q hq
  simp at hq
  rcases hq with rfl | rfl | rfl <;> exact ⟨peq_int u3 d, rfl⟩)
theorem pe23 (d : Nat) : PEq Try.prog (d + 2) 23 [0, 2, 4] := PEq.of_agg (n := 3) (by kernel_rfl) (by kernel_rfl) (by decide) (ae23 d)
theorem ae79 (d : Nat) : AEq Try.prog (d + 4) 79 [0, 2, 4, 6, 8, 10, 12, 14, 16, 18, 20, 22, 24, 26, 28, 30, 32, 34, 36] :=
  aeq_fields (l := [(23,0,false),(77,3,false)]) (by kernel_rfl) (by kernel_rfl) (by kernel_rfl) (fun t => if t = 23 then [0, 2, 4] else [0, 2, 4, 6, 8, 10, 12, 14, 16, 18, 20, 22, 24, 26, 28, 30]) (by
  intro q hq
  simp at hq
  rcases hq with rfl | rfl
  · exact ⟨pe23 (d + 1), rfl⟩
  · exact ⟨pe77 d, rfl⟩)
theorem nogAll : (Try.prog.funcs.toList.all fun fn => !(fn.body.isSome && fn.name == "runtime.NumGoroutine")) = true := by kernel_rfl
theorem keysNodup : (siteTab.map (·.key)).Nodup := by
  have h : siteTab.map (·.key) = [8205, 968610, 549275, 856855] := by kernel_rfl
  rw [h]; decide
theorem sitesAll : (Try.prog.funcs.toList.zipIdx.all fun p => siteFns.contains p.2 || ((p.1.body.map fun c => (sitesOf c).isEmpty).getD true)) = true := by kernel_rfl
theorem site_of {f : Nat} (hf : f ∈ siteFns) {s : Site} (hs : s ∈ sitesOf (fcode f)) : gsite s.key = some s :=
  findSite_of keysNodup (List.mem_flatMap.2 ⟨f, hf, hs⟩)
theorem E_good : E.Good where
  eqt := by
    intro t xs ys r w x y hne hc
    have ht : t = 65 ∨ t = 69 ∨ t = 67 ∨ t = 76 ∨ t = 79 := by
      unfold E at hne
      simp only [beq_iff_eq] at hne
      by_cases h1 : t = 65
      · exact .inl h1
      by_cases h2 : t = 69
      · exact .inr (.inl h2)
      by_cases h3 : t = 67
      · exact .inr (.inr (.inl h3))
      by_cases h4 : t = 76
      · exact .inr (.inr (.inr (.inl h4)))
      by_cases h5 : t = 79
      · exact .inr (.inr (.inr (.inr h5)))
      simp [h1, h2, h3, h4, h5] at hne
    rcases ht with rfl | rfl | rfl | rfl | rfl
    · exact eqt_flat fl65 w x y hc
    · exact eqt_flat fl69 w x y hc
    · exact eqt_deep (by kernel_rfl) (ae67 9998) w x y hc
    · exact eqt_deep (by kernel_rfl) (ae76 9998) w x y hc
    · exact eqt_deep (by kernel_rfl) (ae79 9996) w x y hc
  nog := by
    intro f fn hf hb
    have h := List.all_eq_true.1 nogAll fn (Array.mem_toList_iff.2 (Array.mem_of_getElem? hf))
    simpa [hb] using h
  sites := by
    intro f fn c hf hc s hs
    have h := List.all_eq_true.1 sitesAll (fn, f) (by rw [List.mem_zipIdx_iff_getElem?]; have hf' : Try.prog.funcs[f]? = some fn := hf; simpa using hf')
    simp only [Bool.or_eq_true] at h
    rcases h with h | h
    · refine site_of (f := f) (by simpa using h) ?_
      have e : fcode f = c := by
        show (((E.P.funcs[f]?).bind (·.body)).getD .skip) = c
        rw [hf]
        simp [hc]
      rw [e]; exact hs
    · rw [hc] at h
      simp only [Option.map_some, Option.getD_some, List.isEmpty_iff] at h
      rw [h] at hs
      simp at hs
  tab := by
    intro k s hs
    obtain ⟨hm, _⟩ := findSite_mem hs
    obtain ⟨f, hf, hm⟩ := List.mem_flatMap.1 hm
    have := sitesOf_sub hm
    exact ⟨fun t ht => site_of hf (this.1 t ht), fun t ht => site_of hf (this.2 t ht)⟩
theorem E_mix : E.P.follows .mixedOrders = true := by kernel_rfl
end Go.AM
namespace Go.AM
open Go Go.Proofs
noncomputable def r8 (call : CallF) (fuel base : Nat) (x0 : Value) (x1 : Value) (x2 : Value) (x3 : Value) (m : M) : Res2 :=
  (kc (call base 42 [x0, x1, x2, x3] m) (fun v30_1 m => (k1 (mextract 0 v30_1) fun v31_2 => (k1 (mextract 1 v30_1) fun v32_3 => (k2 (xalloc E.P m 23) fun v9_4 m => (ks (xstore E.P base m 23 v9_4 v31_2) fun m => (xlen m fun H_5 => (k1 (mfieldAddr E.P 23 v9_4 2) fun v33_6 => (k1 (xload E.P m 3 v33_6) fun v34_7 => (k1 (mfieldAddr E.P 23 v9_4 0) fun v35_8 => (k1 (xload E.P m 3 v35_8) fun v36_9 => (k1 (mfieldAddr E.P 23 v9_4 1) fun v37_10 => (k1 (xload E.P m 3 v37_10) fun v38_11 => (k1 (mbuild E.P 23 [(0, v34_7), (1, v36_9), (2, v38_11)]) fun v39_12 => (k1 (mfieldAddr E.P 23 v9_4 1) fun v40_13 => (kexv (mexact m v40_13) (k1 (xload E.P m 3 v40_13) fun v41_14 => (k1 (mfieldAddr E.P 23 v9_4 2) fun v42_15 => (kexv (mexact m v42_15) (k1 (xload E.P m 3 v42_15) fun v43_16 => (k1 (mfieldAddr E.P 23 v9_4 0) fun v44_17 => (kexv (mexact m v44_17) (k1 (xload E.P m 3 v44_17) fun v45_18 => (k1 (mbuild E.P 23 [(0, v41_14), (1, v43_16), (2, v45_18)]) fun v46_19 => (k2 (xalloc E.P m 23) fun v11_20 m => (k2 (xalloc E.P m 23) fun v12_21 m => (kexv (mfar H_5 v11_20) (ks (xstore E.P base m 23 v11_20 v39_12) fun m => (ks (xstore E.P base m 23 v12_21 v46_19) fun m => (kc (call base 43 [v32_3] m) (fun v48_22 m => (k1 (xload E.P m 23 v9_4) fun v50_23 => (kc (call base 29 [v50_23, v32_3] m) (fun v52_24 m => (k1 (mextract 0 v52_24) fun v53_25 => (k1 (mextract 1 v52_24) fun v54_26 => (k1 (xload E.P m 23 v9_4) fun v56_27 => (kc (call base 29 [v56_27, v53_25] m) (fun v58_28 m => (k1 (mextract 0 v58_28) fun v59_29 => (k1 (mextract 1 v58_28) fun v60_30 => (k1 (xload E.P m 23 v9_4) fun v62_31 => (kc (call base 30 [v62_31, v32_3] m) (fun v64_32 m => (k1 (mextract 0 v64_32) fun v65_33 => (k1 (mextract 1 v64_32) fun v66_34 => (k1 (mfieldAddr E.P 23 v9_4 1) fun v68_35 => (k1 (xload E.P m 3 v68_35) fun v69_36 => (k1 (mfieldAddr E.P 23 v9_4 0) fun v70_37 => (k1 (xload E.P m 3 v70_37) fun v71_38 => (k1 (mfieldAddr E.P 23 v9_4 2) fun v72_39 => (k1 (xload E.P m 3 v72_39) fun v73_40 => (k1 (mbuild E.P 23 [(0, v69_36), (1, v71_38), (2, v73_40)]) fun v74_41 => (kc (call base 30 [v74_41, v65_33] m) (fun v76_42 m => (k1 (mextract 0 v76_42) fun v77_43 => (k1 (mextract 1 v76_42) fun v78_44 => (k1 (mbin E .neq 24 v54_26 (.int .i64 0)) fun v80_45 => (kb v80_45 (fVal (.bool false) fun v => some (.ret v, m)) (k1 (mbin E .neq 24 v60_30 (.int .i64 0)) fun v83_46 => (kb v83_46 (fVal (.bool false) fun v => some (.ret v, m)) (k1 (mbin E .neq 24 v66_34 (.int .i64 0)) fun v87_47 => (kb v87_47 (fVal (.bool false) fun v => some (.ret v, m)) (k1 (mbin E .neq 24 v78_44 (.int .i64 0)) fun v91_48 => (kb v91_48 (fVal (.bool false) fun v => some (.ret v, m)) (kc (kB m (call m.length 26 [v59_29, v32_3] m)) (fun v96_49 m => (k1 (mun .not v96_49) fun v97_50 => (kb v97_50 (fVal (.bool false) fun v => some (.ret v, m)) (kc (kB m (call m.length 26 [v77_43, v32_3] m)) (fun v102_51 m => (k1 (mun .not v102_51) fun v103_52 => (kb v103_52 (fVal (.bool false) fun v => some (.ret v, m)) (kc (kB m (call m.length 43 [v53_25] m)) (fun v107_53 m => (k1 (mfieldAddr E.P 23 v9_4 0) fun v108_54 => (k1 (xload E.P m 3 v108_54) fun v109_55 => (k1 (mfieldAddr E.P 23 v9_4 1) fun v110_56 => (k1 (xload E.P m 3 v110_56) fun v111_57 => (k1 (mbin E .mul 3 v109_55 v111_57) fun v112_58 => (k1 (mfieldAddr E.P 23 v9_4 2) fun v113_59 => (k1 (xload E.P m 3 v113_59) fun v114_60 => (k1 (mbin E .mul 3 v112_58 v114_60) fun v115_61 => (k1 (mbin E .sub 3 v115_61 v48_22) fun v117_62 => (k1 (mbin E .neq 3 v107_53 v117_62) fun v118_63 => (kb v118_63 (fVal (.bool false) fun v => some (.ret v, m)) (kc (kB m (call m.length 43 [v65_33] m)) (fun v122_64 m => (k1 (mbin E .neq 3 v122_64 v48_22) fun v124_65 => (kb v124_65 (fVal (.bool false) fun v => some (.ret v, m)) (k1 (xload E.P m 23 v9_4) fun v127_66 => (kc (call base 31 [v127_66, v32_3] m) (fun v129_67 m => (k1 (mextract 0 v129_67) fun v130_68 => (k1 (mextract 1 v129_67) fun v131_69 => (k1 (xload E.P m 23 v11_20) fun v133_70 => (kc (call base 31 [v133_70, v130_68] m) (fun v135_71 m => (k1 (mextract 0 v135_71) fun v136_72 => (k1 (mextract 1 v135_71) fun v137_73 => (k1 (xload E.P m 23 v12_21) fun v139_74 => (kc (call base 31 [v139_74, v136_72] m) (fun v141_75 m => (k1 (mextract 0 v141_75) fun v142_76 => (k1 (mextract 1 v141_75) fun v143_77 => (k1 (mbin E .eql 24 v131_69 (.int .i64 0)) fun v145_78 => (kb v145_78 (k1 (mbin E .eql 24 v137_73 (.int .i64 0)) fun v148_79 => (kb v148_79 (k1 (mbin E .eql 24 v143_77 (.int .i64 0)) fun v152_80 => (kb v152_80 (kc (call base 26 [v142_76, v32_3] m) (fun v157_81 m => (kb v157_81 (kc (call base 43 [v130_68] m) (fun v161_82 m => (k1 (mbin E .eql 3 v161_82 v48_22) fun v163_83 => (kb v163_83 (kc (call base 43 [v136_72] m) (fun v167_84 m => (k1 (mbin E .eql 3 v167_84 v48_22) fun v169_85 => (kb v169_85 (kc (call base 19 [] m) (fun v172_86 m => (fVal v172_86 fun v => some (.ret v, m))) (fun v m => some (.pan v, m))) (fVal (.bool false) fun v => some (.ret v, m))))) (fun v m => some (.pan v, m))) (fVal (.bool false) fun v => some (.ret v, m))))) (fun v m => some (.pan v, m))) (fVal (.bool false) fun v => some (.ret v, m)))) (fun v m => some (.pan v, m))) (fVal (.bool false) fun v => some (.ret v, m)))) (fVal (.bool false) fun v => some (.ret v, m)))) (fVal (.bool false) fun v => some (.ret v, m))))))) (fun v m => some (.pan v, m))))))) (fun v m => some (.pan v, m))))))) (fun v m => some (.pan v, m))))))) (fun _ _ => none)))))))))))))) (fun _ _ => none))))) (fun _ _ => none))))) (fun _ _ => none))))))))))))) (fun v m => some (.pan v, m))))))))))))) (fun v m => some (.pan v, m))))))) (fun v m => some (.pan v, m))))))) (fun v m => some (.pan v, m))))) (fun v m => some (.pan v, m))))))))))))))))))))))))))))))) (fun v m => some (.pan v, m)))
def keep8 : Keep := { region := fun i => ([[0, 1, 2, 3], [9, 10], [9, 10, 11, 12], [9, 10, 11, 12, 13], [9, 10, 11, 12, 13, 14, 15], [9, 10, 11, 12, 13, 14, 15, 16, 17], [9, 10, 11, 12, 13, 14, 15, 16, 17, 18, 19], [9, 10, 11, 12, 13, 14, 15, 16, 17, 18, 19, 20, 21], [9, 10, 11, 12, 13, 125], [8], [10, 11, 12, 13, 15, 22], [10, 12, 13, 15, 17, 22, 23], [10, 13, 15, 17, 19, 22, 23, 24], [8]] : List (List Nat))[i]?, exit := fun i => ([] : List (List Nat))[i]?, ret := some [8] }
noncomputable def lp8 (call : CallF) (fuel base : Nat) : Lp := lpsel []
noncomputable def c8 : Code := Try.f8.body.getD .skip
theorem r8_eq (call : CallF) (fuel base : Nat) (x0 : Value) (x1 : Value) (x2 : Value) (x3 : Value) (m : M) : kbody E call keep8 (lp8 call fuel base) base Try.f8 [x0, x1, x2, x3] m = r8 call fuel base x0 x1 x2 x3 m := by
  kernel_rfl
noncomputable def rf8 : RF := fun call fuel base args m => match args with
  | [x0, x1, x2, x3] => r8 call fuel base x0 x1 x2 x3 m
  | _ => none
theorem r8_lk (call : CallF) (fuel base : Nat) : LoopsOk E call (lp8 call fuel base) fuel base 0 c8 = (And True (And True (And True (And True (And True (And True (And True (And True (And (And True (And (And True True) True)) (And True (And True (And True (And True True))))))))))))) := by kernel_rfl
theorem r8_fn : E.P.funcs[8]? = some Try.f8 := by kernel_rfl
theorem r8_body : Try.f8.body = some c8 := by kernel_rfl
theorem rf8_ok : RFok E 8 rf8 := by
  show RFok' E 8 rf8
  refine ⟨Try.f8, r8_fn, fun call fuel base args m r _ h => ?_⟩
  unfold rf8 at h
  split at h
  · rw [← r8_eq] at h
    exact kbody_sound (c := c8) r8_body (Eq.mpr (r8_lk call fuel base) (And.intro trivial (And.intro trivial (And.intro trivial (And.intro trivial (And.intro trivial (And.intro trivial (And.intro trivial (And.intro trivial (And.intro (And.intro trivial (And.intro (And.intro trivial trivial) trivial)) (And.intro trivial (And.intro trivial (And.intro trivial (And.intro trivial trivial)))))))))))))) h
  · simp at h
end Go.AM
namespace Go.AM
open Go Go.Proofs
noncomputable def r12 (call : CallF) (fuel base : Nat) (x0 : Value) (m : M) : Res2 :=
  (k2 (xbox m x0) fun v1_1 m => (k1 (xload E.P m 23 v1_1) fun v4_2 => (kc (call base 47 [v4_2] m) (fun v5_3 m => (k1 (mun .not v5_3) fun v6_4 => (kb v6_4 (some (.ret (.tuple #[(.int .i64 0), (.int .i64 2)]), m)) (k1 (xload E.P m 23 v1_1) fun v7_5 => (kc (call base 48 [v7_5] m) (fun v8_6 m => (some (.ret (.tuple #[v8_6, (.int .i64 0)]), m))) (fun v m => some (.pan v, m))))))) (fun v m => some (.pan v, m)))))
def keep12 : Keep := { region := fun i => ([[1], [1, 6], [2, 3], [2, 3]] : List (List Nat))[i]?, exit := fun i => ([] : List (List Nat))[i]?, ret := some [2, 3] }
noncomputable def lp12 (call : CallF) (fuel base : Nat) : Lp := lpsel []
noncomputable def c12 : Code := Try.f12.body.getD .skip
theorem r12_eq (call : CallF) (fuel base : Nat) (x0 : Value) (m : M) : kbody E call keep12 (lp12 call fuel base) base Try.f12 [x0] m = r12 call fuel base x0 m := by
  kernel_rfl
noncomputable def rf12 : RF := fun call fuel base args m => match args with
  | [x0] => r12 call fuel base x0 m
  | _ => none
theorem r12_lk (call : CallF) (fuel base : Nat) : LoopsOk E call (lp12 call fuel base) fuel base 0 c12 = (And True (And (And True (And (And True True) True)) (And True True))) := by kernel_rfl
theorem r12_fn : E.P.funcs[12]? = some Try.f12 := by kernel_rfl
theorem r12_body : Try.f12.body = some c12 := by kernel_rfl
theorem rf12_ok : RFok E 12 rf12 := by
  show RFok' E 12 rf12
  refine ⟨Try.f12, r12_fn, fun call fuel base args m r _ h => ?_⟩
  unfold rf12 at h
  split at h
  · rw [← r12_eq] at h
    exact kbody_sound (c := c12) r12_body (Eq.mpr (r12_lk call fuel base) (And.intro trivial (And.intro (And.intro trivial (And.intro (And.intro trivial trivial) trivial)) (And.intro trivial trivial)))) h
  · simp at h
end Go.AM
namespace Go.AM
open Go Go.Proofs
noncomputable def r14 (call : CallF) (fuel base : Nat) (x0 : Value) (m : M) : Res2 :=
  (k2 (xbox m x0) fun v1_1 m => (k1 (xload E.P m 23 v1_1) fun v4_2 => (kc (call base 47 [v4_2] m) (fun v5_3 m => (k1 (mun .not v5_3) fun v6_4 => (kb v6_4 (some (.ret (.tuple #[(.int .i64 0), (.int .i64 2)]), m)) (k1 (xload E.P m 23 v1_1) fun v7_5 => (kc (call base 49 [v7_5] m) (fun v8_6 m => (some (.ret (.tuple #[v8_6, (.int .i64 0)]), m))) (fun v m => some (.pan v, m))))))) (fun v m => some (.pan v, m)))))
def keep14 : Keep := { region := fun i => ([[1], [1, 6], [2, 3], [2, 3]] : List (List Nat))[i]?, exit := fun i => ([] : List (List Nat))[i]?, ret := some [2, 3] }
noncomputable def lp14 (call : CallF) (fuel base : Nat) : Lp := lpsel []
noncomputable def c14 : Code := Try.f14.body.getD .skip
theorem r14_eq (call : CallF) (fuel base : Nat) (x0 : Value) (m : M) : kbody E call keep14 (lp14 call fuel base) base Try.f14 [x0] m = r14 call fuel base x0 m := by
  kernel_rfl
noncomputable def rf14 : RF := fun call fuel base args m => match args with
  | [x0] => r14 call fuel base x0 m
  | _ => none
theorem r14_lk (call : CallF) (fuel base : Nat) : LoopsOk E call (lp14 call fuel base) fuel base 0 c14 = (And True (And (And True (And (And True True) True)) (And True True))) := by kernel_rfl
theorem r14_fn : E.P.funcs[14]? = some Try.f14 := by kernel_rfl
theorem r14_body : Try.f14.body = some c14 := by kernel_rfl
theorem rf14_ok : RFok E 14 rf14 := by
  show RFok' E 14 rf14
  refine ⟨Try.f14, r14_fn, fun call fuel base args m r _ h => ?_⟩
  unfold rf14 at h
  split at h
  · rw [← r14_eq] at h
    exact kbody_sound (c := c14) r14_body (Eq.mpr (r14_lk call fuel base) (And.intro trivial (And.intro (And.intro trivial (And.intro (And.intro trivial trivial) trivial)) (And.intro trivial trivial)))) h
  · simp at h
end Go.AM
namespace Go.AM
open Go Go.Proofs
noncomputable def r15_L2 (call : CallF) (fuel base : Nat) (kp : Value → M → Res2) (kx2 : Value → Value → Value → Value → M → Res2) (n : Nat) : Value → Value → Value → Value → Value → M → Res2 :=
  Nat.rec (motive := fun _ => Value → Value → Value → Value → Value → M → Res2) (fun _ _ _ _ _ _ => none)
    (fun _ ih x1 x4 x5 x6 x7 m =>
      (k1 (mfieldAddr E.P 23 x1 0) fun v18_8 => (k1 (xload E.P m 3 v18_8) fun v19_9 => (k1 (mbin E .lss 3 x7 v19_9) fun v20_10 => (kb v20_10 (k1 (mfieldAddr E.P 23 x1 1) fun v24_11 => (k1 (xload E.P m 3 v24_11) fun v25_12 => (k1 (mfieldAddr E.P 23 x1 2) fun v26_13 => (k1 (xload E.P m 3 v26_13) fun v27_14 => (k1 (mbin E .add 3 v25_12 v27_14) fun v28_15 => (k1 (mfieldAddr E.P 23 x1 1) fun v29_16 => (k1 (xload E.P m 3 v29_16) fun v30_17 => (k1 (mbin E .sub 3 v30_17 x5) fun v32_18 => (k1 (mbin E .add 3 v32_18 x7) fun v34_19 => (kc (call base 51 [v28_15, v34_19] m) (fun v35_20 m => (k2 (xbuildSlice E.P m 27 1 [(0, v35_20)]) fun v36_21 m => (k2 (vcall E.P base m .append [27, 27] [x6, v36_21]) fun v37_22 m => (k1 (mbin E .add 3 x7 (.int .i64 1)) fun v22_23 => (ih x1 x4 x5 v37_22 v22_23 m))))) (fun v m => kp v m))))))))))) (kx2 x1 x4 x5 x6 m)))))) n
noncomputable def r15_L0 (call : CallF) (fuel base : Nat) (kp : Value → M → Res2) (kx0 : Value → M → Res2) (n : Nat) : Value → Value → Value → M → Res2 :=
  Nat.rec (motive := fun _ => Value → Value → Value → M → Res2) (fun _ _ _ _ => none)
    (fun _ ih x1 x4 x5 m =>
      (k1 (mfieldAddr E.P 23 x1 0) fun v12_5 => (k1 (xload E.P m 3 v12_5) fun v13_6 => (k1 (mbin E .lss 3 x5 v13_6) fun v14_7 => (kb v14_7 (r15_L2 call fuel base (fun v m => kp v m) (fun y1_24 y4_25 y5_26 y6_27 m => (k2 (xbuildSlice E.P m 33 1 [(0, y6_27)]) fun v40_28 m => (k2 (vcall E.P base m .append [33, 33] [y4_25, v40_28]) fun v41_29 m => (k1 (mbin E .add 3 y5_26 (.int .i64 1)) fun v16_30 => (ih y1_24 v41_29 v16_30 m))))) fuel x1 x4 x5 (.slice none 0 0) (.int .i64 0) m) (kx0 x4 m)))))) n
noncomputable def r15 (call : CallF) (fuel base : Nat) (x0 : Value) (m : M) : Res2 :=
  (k2 (xbox m x0) fun v1_1 m => (k1 (xload E.P m 23 v1_1) fun v8_2 => (kc (call base 50 [v8_2] m) (fun v9_3 m => (k1 (mun .not v9_3) fun v10_4 => (kb v10_4 (some (.ret (.tuple #[(.int .i64 0), (.int .i64 2)]), m)) (r15_L0 call fuel base (fun v m => some (.pan v, m)) (fun y4_31 m => (kc (call base 52 [y4_31] m) (fun v43_32 m => (some (.ret (.tuple #[v43_32, (.int .i64 0)]), m))) (fun v m => some (.pan v, m)))) fuel v1_1 (.slice none 0 0) (.int .i64 0) m)))) (fun v m => some (.pan v, m)))))
def keep15 : Keep := { region := fun i => ([[1], [1, 10], [2, 3], [1, 4], [1, 4, 5], [1, 4, 5, 14], [1, 4, 5], [1, 4, 5, 6], [1, 4, 5, 6, 7], [1, 4, 5, 6, 7, 20], [1, 4, 5, 6, 7], [1, 4, 5, 6, 7], [1, 4, 5], [2, 3]] : List (List Nat))[i]?, exit := fun i => ([[4], [1, 4, 5], [1, 4, 5, 6], [1, 4, 5, 6, 7]] : List (List Nat))[i]?, ret := some [2, 3] }
noncomputable def r15_L2_R (call : CallF) (fuel base n : Nat) (vs : List Value) (m : M) (K : KT) : Res2 := match vs with
  | [x1, x4, x5, x6, x7] => r15_L2 call fuel base (fun v m => K (.pan v) { n := 44, l := [] } m) (fun y1 y4 y5 y6 m => K (.exit 2) { n := 44, l := [(1, y1), (4, y4), (5, y5), (6, y6)] } m) n x1 x4 x5 x6 x7 m
  | _ => none
noncomputable def r15_L0_R (call : CallF) (fuel base n : Nat) (vs : List Value) (m : M) (K : KT) : Res2 := match vs with
  | [x1, x4, x5] => r15_L0 call fuel base (fun v m => K (.pan v) { n := 44, l := [] } m) (fun y4 m => K (.exit 0) { n := 44, l := [(4, y4)] } m) n x1 x4 x5 m
  | _ => none
noncomputable def lp15 (call : CallF) (fuel base : Nat) : Lp := lpsel [(2, fun T m K => kslots 44 [1, 4, 5, 6, 7] T fun vs => r15_L2_R call fuel base fuel vs m K), (0, fun T m K => kslots 44 [1, 4, 5] T fun vs => r15_L0_R call fuel base fuel vs m K)]
noncomputable def c15 : Code := Try.f15.body.getD .skip
theorem r15_L2_lk (call : CallF) (fuel base : Nat) : LoopsOk E call (lp15 call fuel base) fuel base 2 (loopB (blockB (seqR (seqL (seqR (blockB (seqL (seqR (loopB (blockB (seqR (seqL (seqR (seqR (seqR c15))))))))))))))) = (And (And True (And True True)) (And True True)) := by kernel_rfl
theorem r15_L2_ok (call : CallF) (fuel base : Nat) : LpOk E call (lp15 call fuel base) fuel base 2 (loopB (blockB (seqR (seqL (seqR (blockB (seqL (seqR (loopB (blockB (seqR (seqL (seqR (seqR (seqR c15))))))))))))))) := by
  refine loop_ok (kp := keep15) (hb := Eq.mpr (r15_L2_lk call fuel base) (And.intro (And.intro trivial (And.intro trivial trivial)) (And.intro trivial trivial))) 44 [1, 4, 5, 6, 7] (fun n vs m K => r15_L2_R call fuel base n vs m K) ?_ ?_ (fun _ _ _ => rfl)
  · intro vs m K
    unfold r15_L2_R
    split <;> rfl
  · intro n vs m K hl
    match vs, hl with
    | [x1, x4, x5, x6, x7], _ => show _ = _; kernel_rfl
theorem r15_L0_lk (call : CallF) (fuel base : Nat) : LoopsOk E call (lp15 call fuel base) fuel base 0 (loopB (blockB (seqR (seqL (seqR (seqR (seqR c15))))))) = (And (And True (And True True)) (And (And True (And (And True (LpOk E call (lp15 call fuel base) fuel base 2 (loopB (blockB (seqR (seqL (seqR (blockB (seqL (seqR (loopB (blockB (seqR (seqL (seqR (seqR (seqR c15))))))))))))))))) True)) True)) := by kernel_rfl
theorem r15_L0_ok (call : CallF) (fuel base : Nat) : LpOk E call (lp15 call fuel base) fuel base 0 (loopB (blockB (seqR (seqL (seqR (seqR (seqR c15))))))) := by
  refine loop_ok (kp := keep15) (hb := Eq.mpr (r15_L0_lk call fuel base) (And.intro (And.intro trivial (And.intro trivial trivial)) (And.intro (And.intro trivial (And.intro (And.intro trivial (r15_L2_ok call fuel base)) trivial)) trivial))) 44 [1, 4, 5] (fun n vs m K => r15_L0_R call fuel base n vs m K) ?_ ?_ (fun _ _ _ => rfl)
  · intro vs m K
    unfold r15_L0_R
    split <;> rfl
  · intro n vs m K hl
    match vs, hl with
    | [x1, x4, x5], _ => show _ = _; kernel_rfl
theorem r15_eq (call : CallF) (fuel base : Nat) (x0 : Value) (m : M) : kbody E call keep15 (lp15 call fuel base) base Try.f15 [x0] m = r15 call fuel base x0 m := by
  kernel_rfl
noncomputable def rf15 : RF := fun call fuel base args m => match args with
  | [x0] => r15 call fuel base x0 m
  | _ => none
theorem r15_lk (call : CallF) (fuel base : Nat) : LoopsOk E call (lp15 call fuel base) fuel base 0 c15 = (And True (And (And True (And (And True True) True)) (And True (And (And True (LpOk E call (lp15 call fuel base) fuel base 0 (loopB (blockB (seqR (seqL (seqR (seqR (seqR c15))))))))) (And True True))))) := by kernel_rfl
theorem r15_fn : E.P.funcs[15]? = some Try.f15 := by kernel_rfl
theorem r15_body : Try.f15.body = some c15 := by kernel_rfl
theorem rf15_ok : RFok E 15 rf15 := by
  show RFok' E 15 rf15
  refine ⟨Try.f15, r15_fn, fun call fuel base args m r _ h => ?_⟩
  unfold rf15 at h
  split at h
  · rw [← r15_eq] at h
    exact kbody_sound (c := c15) r15_body (Eq.mpr (r15_lk call fuel base) (And.intro trivial (And.intro (And.intro trivial (And.intro (And.intro trivial trivial) trivial)) (And.intro trivial (And.intro (And.intro trivial (r15_L0_ok call fuel base)) (And.intro trivial trivial)))))) h
  · simp at h
end Go.AM
namespace Go.AM
open Go Go.Proofs
noncomputable def r19 (call : CallF) (fuel base : Nat) (m : M) : Res2 :=
  (k1 (mbuild E.P 23 [(0, (.int .i64 2)), (1, (.int .i64 2)), (2, (.int .i64 2))]) fun v8_1 => (k2 (xalloc E.P m 23) fun v1_2 m => (ks (xstore E.P base m 23 v1_2 v8_1) fun m => (k1 (xload E.P m 23 v1_2) fun v10_3 => (kc (call base 12 [v10_3] m) (fun v11_4 m => (k1 (mextract 0 v11_4) fun v12_5 => (k1 (mextract 1 v11_4) fun v13_6 => (k1 (xload E.P m 23 v1_2) fun v15_7 => (kc (call base 14 [v15_7] m) (fun v16_8 m => (k1 (mextract 0 v16_8) fun v17_9 => (k1 (mextract 1 v16_8) fun v18_10 => (k1 (xload E.P m 23 v1_2) fun v20_11 => (k2 (xbuildSlice E.P m 27 2 [(0, (.int .i64 2)), (1, (.int .i64 1))]) fun v21_12 m => (k2 (xbuildSlice E.P m 27 2 [(0, (.int .i64 1)), (1, (.int .i64 0))]) fun v22_13 m => (k2 (xbuildSlice E.P m 33 2 [(0, v21_12), (1, v22_13)]) fun v23_14 m => (kc (call base 24 [v20_11, v23_14] m) (fun v24_15 m => (k1 (mextract 0 v24_15) fun v25_16 => (k1 (mextract 1 v24_15) fun v26_17 => (k1 (mbin E .eql 24 v13_6 (.int .i64 0)) fun v28_18 => (kb v28_18 (k1 (mbin E .eql 3 v12_5 (.int .i64 20)) fun v31_19 => (kb v31_19 (k1 (mbin E .eql 24 v18_10 (.int .i64 0)) fun v35_20 => (kb v35_20 (k1 (mbin E .eql 3 v17_9 (.int .i64 20)) fun v39_21 => (kb v39_21 (k1 (mbin E .eql 24 v26_17 (.int .i64 0)) fun v43_22 => (kb v43_22 (k1 (mbin E .eql 3 v25_16 (.int .i64 10)) fun v47_23 => (fVal v47_23 fun v => some (.ret v, m))) (fVal (.bool false) fun v => some (.ret v, m)))) (fVal (.bool false) fun v => some (.ret v, m)))) (fVal (.bool false) fun v => some (.ret v, m)))) (fVal (.bool false) fun v => some (.ret v, m)))) (fVal (.bool false) fun v => some (.ret v, m))))))) (fun v m => some (.pan v, m)))))))))) (fun v m => some (.pan v, m))))))) (fun v m => some (.pan v, m)))))))
def keep19 : Keep := { region := fun i => ([[], [1], [1, 2, 3], [1, 2, 3, 4, 5], [2, 3, 4, 5, 6, 7], [0]] : List (List Nat))[i]?, exit := fun i => ([] : List (List Nat))[i]?, ret := some [0] }
noncomputable def lp19 (call : CallF) (fuel base : Nat) : Lp := lpsel []
noncomputable def c19 : Code := Try.f19.body.getD .skip
theorem r19_eq (call : CallF) (fuel base : Nat) (m : M) : kbody E call keep19 (lp19 call fuel base) base Try.f19 [] m = r19 call fuel base  m := by
  kernel_rfl
noncomputable def rf19 : RF := fun call fuel base args m => match args with
  | [] => r19 call fuel base  m
  | _ => none
theorem r19_lk (call : CallF) (fuel base : Nat) : LoopsOk E call (lp19 call fuel base) fuel base 0 c19 = (And True (And True (And True (And True (And True (And True True)))))) := by kernel_rfl
theorem r19_fn : E.P.funcs[19]? = some Try.f19 := by kernel_rfl
theorem r19_body : Try.f19.body = some c19 := by kernel_rfl
theorem rf19_ok : RFok E 19 rf19 := by
  show RFok' E 19 rf19
  refine ⟨Try.f19, r19_fn, fun call fuel base args m r _ h => ?_⟩
  unfold rf19 at h
  split at h
  · rw [← r19_eq] at h
    exact kbody_sound (c := c19) r19_body (Eq.mpr (r19_lk call fuel base) (And.intro trivial (And.intro trivial (And.intro trivial (And.intro trivial (And.intro trivial (And.intro trivial trivial))))))) h
  · simp at h
end Go.AM
namespace Go.AM
open Go Go.Proofs
noncomputable def r24 (call : CallF) (fuel base : Nat) (x0 : Value) (x1 : Value) (m : M) : Res2 :=
  (k2 (xbox m x0) fun v2_1 m => (k1 (xload E.P m 23 v2_1) fun v9_2 => (kc (call base 56 [v9_2, x1] m) (fun v11_3 m => (k1 (mextract 0 v11_3) fun v12_4 => (k1 (mextract 1 v11_3) fun v13_5 => (k2 (xalloc E.P m 79) fun v6_6 m => (ks (xstore E.P base m 79 v6_6 v12_4) fun m => (k1 (mbin E .neq 24 v13_5 (.int .i64 0)) fun v15_7 => (kb v15_7 (some (.ret (.tuple #[(.int .i64 0), v13_5]), m)) (k1 (xload E.P m 79 v6_6) fun v17_8 => (kc (call base 57 [v17_8] m) (fun v18_9 m => (some (.ret (.tuple #[v18_9, (.int .i64 0)]), m))) (fun v m => some (.pan v, m))))))))))) (fun v m => some (.pan v, m)))))
def keep24 : Keep := { region := fun i => ([[1, 2], [6, 7], [6, 7, 15], [4, 5], [4, 5]] : List (List Nat))[i]?, exit := fun i => ([] : List (List Nat))[i]?, ret := some [4, 5] }
noncomputable def lp24 (call : CallF) (fuel base : Nat) : Lp := lpsel []
noncomputable def c24 : Code := Try.f24.body.getD .skip
theorem r24_eq (call : CallF) (fuel base : Nat) (x0 : Value) (x1 : Value) (m : M) : kbody E call keep24 (lp24 call fuel base) base Try.f24 [x0, x1] m = r24 call fuel base x0 x1 m := by
  kernel_rfl
noncomputable def rf24 : RF := fun call fuel base args m => match args with
  | [x0, x1] => r24 call fuel base x0 x1 m
  | _ => none
theorem r24_lk (call : CallF) (fuel base : Nat) : LoopsOk E call (lp24 call fuel base) fuel base 0 c24 = (And True (And True (And (And True (And (And True True) True)) (And True True)))) := by kernel_rfl
theorem r24_fn : E.P.funcs[24]? = some Try.f24 := by kernel_rfl
theorem r24_body : Try.f24.body = some c24 := by kernel_rfl
theorem rf24_ok : RFok E 24 rf24 := by
  show RFok' E 24 rf24
  refine ⟨Try.f24, r24_fn, fun call fuel base args m r _ h => ?_⟩
  unfold rf24 at h
  split at h
  · rw [← r24_eq] at h
    exact kbody_sound (c := c24) r24_body (Eq.mpr (r24_lk call fuel base) (And.intro trivial (And.intro trivial (And.intro (And.intro trivial (And.intro (And.intro trivial trivial) trivial)) (And.intro trivial trivial))))) h
  · simp at h
end Go.AM
namespace Go.AM
open Go Go.Proofs
noncomputable def r26_L2 (call : CallF) (fuel base : Nat) (kr : Value → M → Res2) (kx2 : Value → Value → Value → M → Res2) (n : Nat) : Value → Value → Value → Value → M → Res2 :=
  Nat.rec (motive := fun _ => Value → Value → Value → Value → M → Res2) (fun _ _ _ _ _ => none)
    (fun _ ih x0 x1 x5 x6 m =>
      (k1 (mindexAddr E.P 33 x0 x5) fun v32_13 => (k1 (xload E.P m 27 v32_13) fun v33_14 => (k2 (vcall E.P base m .len [27] [v33_14]) fun v34_15 m => (k1 (mbin E .lss 3 x6 v34_15) fun v35_16 => (kb v35_16 (k1 (mindexAddr E.P 33 x0 x5) fun v40_17 => (k1 (xload E.P m 27 v40_17) fun v41_18 => (k1 (mindexAddr E.P 27 v41_18 x6) fun v43_19 => (k1 (xload E.P m 3 v43_19) fun v44_20 => (k1 (mindexAddr E.P 33 x1 x5) fun v47_21 => (k1 (xload E.P m 27 v47_21) fun v48_22 => (k1 (mindexAddr E.P 27 v48_22 x6) fun v50_23 => (k1 (xload E.P m 3 v50_23) fun v51_24 => (k1 (mbin E .neq 3 v44_20 v51_24) fun v52_25 => (kb v52_25 (kr (.bool false) m) (k1 (mbin E .add 3 x6 (.int .i64 1)) fun v37_26 => (ih x0 x1 x5 v37_26 m)))))))))))) (kx2 x0 x1 x5 m))))))) n
noncomputable def r26_L0 (call : CallF) (fuel base : Nat) (kr : Value → M → Res2) (kx0 : M → Res2) (n : Nat) : Value → Value → Value → M → Res2 :=
  Nat.rec (motive := fun _ => Value → Value → Value → M → Res2) (fun _ _ _ _ => none)
    (fun _ ih x0 x1 x5 m =>
      (k2 (vcall E.P base m .len [33] [x0]) fun v14_4 m => (k1 (mbin E .lss 3 x5 v14_4) fun v15_5 => (kb v15_5 (k1 (mindexAddr E.P 33 x0 x5) fun v20_6 => (k1 (xload E.P m 27 v20_6) fun v21_7 => (k2 (vcall E.P base m .len [27] [v21_7]) fun v22_8 m => (k1 (mindexAddr E.P 33 x1 x5) fun v25_9 => (k1 (xload E.P m 27 v25_9) fun v26_10 => (k2 (vcall E.P base m .len [27] [v26_10]) fun v27_11 m => (k1 (mbin E .neq 3 v22_8 v27_11) fun v28_12 => (kb v28_12 (kr (.bool false) m) (r26_L2 call fuel base (fun y4_27 m => (kr y4_27 m)) (fun y0_28 y1_29 y5_30 m => (k1 (mbin E .add 3 y5_30 (.int .i64 1)) fun v17_31 => (ih y0_28 y1_29 v17_31 m))) fuel x0 x1 x5 (.int .i64 0) m))))))))) (kx0 m))))) n
noncomputable def r26 (call : CallF) (fuel base : Nat) (x0 : Value) (x1 : Value) (m : M) : Res2 :=
  (k2 (vcall E.P base m .len [33] [x0]) fun v8_1 m => (k2 (vcall E.P base m .len [33] [x1]) fun v10_2 m => (k1 (mbin E .neq 3 v8_1 v10_2) fun v11_3 => (kb v11_3 (fVal (.bool false) fun v => some (.ret v, m)) (r26_L0 call fuel base (fun y4_32 m => (fVal y4_32 fun v => some (.ret v, m))) (fun m => (fVal (.bool true) fun v => some (.ret v, m))) fuel x0 x1 (.int .i64 0) m)))))
def keep26 : Keep := { region := fun i => ([[0, 1], [0, 1, 11], [4], [0, 1, 5], [0, 1, 5, 15], [0, 1, 5], [0, 1, 5, 28], [4], [0, 1, 5, 6], [0, 1, 5, 6, 35], [0, 1, 5, 6], [0, 1, 5, 6, 52], [4], [4]] : List (List Nat))[i]?, exit := fun i => ([[], [0, 1, 5], [0, 1, 5], [0, 1, 5, 6]] : List (List Nat))[i]?, ret := some [4] }
noncomputable def r26_L2_R (call : CallF) (fuel base n : Nat) (vs : List Value) (m : M) (K : KT) : Res2 := match vs with
  | [x0, x1, x5, x6] => r26_L2 call fuel base (fun y4 m => K .ret { n := 53, l := [(4, y4)] } m) (fun y0 y1 y5 m => K (.exit 2) { n := 53, l := [(0, y0), (1, y1), (5, y5)] } m) n x0 x1 x5 x6 m
  | _ => none
noncomputable def r26_L0_R (call : CallF) (fuel base n : Nat) (vs : List Value) (m : M) (K : KT) : Res2 := match vs with
  | [x0, x1, x5] => r26_L0 call fuel base (fun y4 m => K .ret { n := 53, l := [(4, y4)] } m) (fun m => K (.exit 0) { n := 53, l := [] } m) n x0 x1 x5 m
  | _ => none
noncomputable def lp26 (call : CallF) (fuel base : Nat) : Lp := lpsel [(2, fun T m K => kslots 53 [0, 1, 5, 6] T fun vs => r26_L2_R call fuel base fuel vs m K), (0, fun T m K => kslots 53 [0, 1, 5] T fun vs => r26_L0_R call fuel base fuel vs m K)]
noncomputable def c26 : Code := Try.f26.body.getD .skip
theorem r26_L2_lk (call : CallF) (fuel base : Nat) : LoopsOk E call (lp26 call fuel base) fuel base 2 (loopB (blockB (seqR (seqR (blockB (seqL (seqR (loopB (blockB (seqR (seqL (seqR (seqR c26))))))))))))) = (And (And True (And True True)) (And (And True (And (And True True) True)) True)) := by kernel_rfl
theorem r26_L2_ok (call : CallF) (fuel base : Nat) : LpOk E call (lp26 call fuel base) fuel base 2 (loopB (blockB (seqR (seqR (blockB (seqL (seqR (loopB (blockB (seqR (seqL (seqR (seqR c26))))))))))))) := by
  refine loop_ok (kp := keep26) (hb := Eq.mpr (r26_L2_lk call fuel base) (And.intro (And.intro trivial (And.intro trivial trivial)) (And.intro (And.intro trivial (And.intro (And.intro trivial trivial) trivial)) trivial))) 53 [0, 1, 5, 6] (fun n vs m K => r26_L2_R call fuel base n vs m K) ?_ ?_ (fun _ _ _ => rfl)
  · intro vs m K
    unfold r26_L2_R
    split <;> rfl
  · intro n vs m K hl
    match vs, hl with
    | [x0, x1, x5, x6], _ => show _ = _; kernel_rfl
theorem r26_L0_lk (call : CallF) (fuel base : Nat) : LoopsOk E call (lp26 call fuel base) fuel base 0 (loopB (blockB (seqR (seqL (seqR (seqR c26)))))) = (And (And True (And True True)) (And (And (And True (And (And True True) True)) (And True (LpOk E call (lp26 call fuel base) fuel base 2 (loopB (blockB (seqR (seqR (blockB (seqL (seqR (loopB (blockB (seqR (seqL (seqR (seqR c26)))))))))))))))) True)) := by kernel_rfl
theorem r26_L0_ok (call : CallF) (fuel base : Nat) : LpOk E call (lp26 call fuel base) fuel base 0 (loopB (blockB (seqR (seqL (seqR (seqR c26)))))) := by
  refine loop_ok (kp := keep26) (hb := Eq.mpr (r26_L0_lk call fuel base) (And.intro (And.intro trivial (And.intro trivial trivial)) (And.intro (And.intro (And.intro trivial (And.intro (And.intro trivial trivial) trivial)) (And.intro trivial (r26_L2_ok call fuel base))) trivial))) 53 [0, 1, 5] (fun n vs m K => r26_L0_R call fuel base n vs m K) ?_ ?_ (fun _ _ _ => rfl)
  · intro vs m K
    unfold r26_L0_R
    split <;> rfl
  · intro n vs m K hl
    match vs, hl with
    | [x0, x1, x5], _ => show _ = _; kernel_rfl
theorem r26_eq (call : CallF) (fuel base : Nat) (x0 : Value) (x1 : Value) (m : M) : kbody E call keep26 (lp26 call fuel base) base Try.f26 [x0, x1] m = r26 call fuel base x0 x1 m := by
  kernel_rfl
noncomputable def rf26 : RF := fun call fuel base args m => match args with
  | [x0, x1] => r26 call fuel base x0 x1 m
  | _ => none
theorem r26_lk (call : CallF) (fuel base : Nat) : LoopsOk E call (lp26 call fuel base) fuel base 0 c26 = (And True (And (And True (And (And True True) True)) (And (And True (LpOk E call (lp26 call fuel base) fuel base 0 (loopB (blockB (seqR (seqL (seqR (seqR c26)))))))) (And True True)))) := by kernel_rfl
theorem r26_fn : E.P.funcs[26]? = some Try.f26 := by kernel_rfl
theorem r26_body : Try.f26.body = some c26 := by kernel_rfl
theorem rf26_ok : RFok E 26 rf26 := by
  show RFok' E 26 rf26
  refine ⟨Try.f26, r26_fn, fun call fuel base args m r _ h => ?_⟩
  unfold rf26 at h
  split at h
  · rw [← r26_eq] at h
    exact kbody_sound (c := c26) r26_body (Eq.mpr (r26_lk call fuel base) (And.intro trivial (And.intro (And.intro trivial (And.intro (And.intro trivial trivial) trivial)) (And.intro (And.intro trivial (r26_L0_ok call fuel base)) (And.intro trivial trivial))))) h
  · simp at h
end Go.AM
namespace Go.AM
open Go Go.Proofs
noncomputable def r27_L0 (call : CallF) (fuel base : Nat) (kp : Value → M → Res2) (kr : Value → Value → M → Res2) (kx0 : Value → M → Res2) (n : Nat) : Value → Value → Value → Value → M → Res2 :=
  Nat.rec (motive := fun _ => Value → Value → Value → Value → M → Res2) (fun _ _ _ _ _ => none)
    (fun _ ih x1 x2 x6 x7 m =>
      (k1 (mbin E .lss 3 x7 x1) fun v17_8 => (kb v17_8 (k1 (xload E.P m 23 x2) fun v20_9 => (kc (call base 44 [v20_9, x6] m) (fun v22_10 m => (k1 (mun .not v22_10) fun v23_11 => (kb v23_11 (kr (.slice none 0 0) (.int .i64 4) m) (k1 (mbin E .add 3 x7 (.int .i64 1)) fun v19_12 => (ih x1 x2 x6 v19_12 m))))) (fun v m => kp v m))) (kx0 x6 m)))) n
noncomputable def r27 (call : CallF) (fuel base : Nat) (x0 : Value) (x1 : Value) (m : M) : Res2 :=
  (k2 (xbox m x0) fun v2_1 m => (k1 (xload E.P m 23 v2_1) fun v8_2 => (kc (call base 50 [v8_2] m) (fun v9_3 m => (k1 (mun .not v9_3) fun v10_4 => (kb v10_4 (some (.ret (.tuple #[(.slice none 0 0), (.int .i64 2)]), m)) (k1 (mbin E .lss 3 x1 (.int .i64 0)) fun v12_5 => (kb v12_5 (some (.ret (.tuple #[(.slice none 0 0), (.int .i64 4)]), m)) (k1 (xload E.P m 23 v2_1) fun v13_6 => (kc (call base 54 [v13_6] m) (fun v14_7 m => (r27_L0 call fuel base (fun v m => some (.pan v, m)) (fun y4_13 y5_14 m => (some (.ret (.tuple #[y4_13, y5_14]), m))) (fun y6_15 m => (some (.ret (.tuple #[y6_15, (.int .i64 0)]), m))) fuel x1 v2_1 v14_7 (.int .i64 0) m)) (fun v m => some (.pan v, m))))))))) (fun v m => some (.pan v, m)))))
def keep27 : Keep := { region := fun i => ([[1, 2], [1, 2, 10], [4, 5], [1, 2, 12], [4, 5], [1, 2, 6], [1, 2, 6, 7], [1, 2, 6, 7, 17], [1, 2, 6, 7], [1, 2, 6, 7, 23], [4, 5], [4, 5]] : List (List Nat))[i]?, exit := fun i => ([[6], [1, 2, 6, 7]] : List (List Nat))[i]?, ret := some [4, 5] }
noncomputable def r27_L0_R (call : CallF) (fuel base n : Nat) (vs : List Value) (m : M) (K : KT) : Res2 := match vs with
  | [x1, x2, x6, x7] => r27_L0 call fuel base (fun v m => K (.pan v) { n := 25, l := [] } m) (fun y4 y5 m => K .ret { n := 25, l := [(4, y4), (5, y5)] } m) (fun y6 m => K (.exit 0) { n := 25, l := [(6, y6)] } m) n x1 x2 x6 x7 m
  | _ => none
noncomputable def lp27 (call : CallF) (fuel base : Nat) : Lp := lpsel [(0, fun T m K => kslots 25 [1, 2, 6, 7] T fun vs => r27_L0_R call fuel base fuel vs m K)]
noncomputable def c27 : Code := Try.f27.body.getD .skip
theorem r27_L0_lk (call : CallF) (fuel base : Nat) : LoopsOk E call (lp27 call fuel base) fuel base 0 (loopB (blockB (seqR (seqL (seqR (seqR (seqR (seqR c27)))))))) = (And (And True (And True True)) (And (And True (And (And True True) True)) True)) := by kernel_rfl
theorem r27_L0_ok (call : CallF) (fuel base : Nat) : LpOk E call (lp27 call fuel base) fuel base 0 (loopB (blockB (seqR (seqL (seqR (seqR (seqR (seqR c27)))))))) := by
  refine loop_ok (kp := keep27) (hb := Eq.mpr (r27_L0_lk call fuel base) (And.intro (And.intro trivial (And.intro trivial trivial)) (And.intro (And.intro trivial (And.intro (And.intro trivial trivial) trivial)) trivial))) 25 [1, 2, 6, 7] (fun n vs m K => r27_L0_R call fuel base n vs m K) ?_ ?_ (fun _ _ _ => rfl)
  · intro vs m K
    unfold r27_L0_R
    split <;> rfl
  · intro n vs m K hl
    match vs, hl with
    | [x1, x2, x6, x7], _ => show _ = _; kernel_rfl
theorem r27_eq (call : CallF) (fuel base : Nat) (x0 : Value) (x1 : Value) (m : M) : kbody E call keep27 (lp27 call fuel base) base Try.f27 [x0, x1] m = r27 call fuel base x0 x1 m := by
  kernel_rfl
noncomputable def rf27 : RF := fun call fuel base args m => match args with
  | [x0, x1] => r27 call fuel base x0 x1 m
  | _ => none
theorem r27_lk (call : CallF) (fuel base : Nat) : LoopsOk E call (lp27 call fuel base) fuel base 0 c27 = (And True (And (And True (And (And True True) True)) (And (And True (And (And True True) True)) (And True (And (And True (LpOk E call (lp27 call fuel base) fuel base 0 (loopB (blockB (seqR (seqL (seqR (seqR (seqR (seqR c27)))))))))) (And True True)))))) := by kernel_rfl
theorem r27_fn : E.P.funcs[27]? = some Try.f27 := by kernel_rfl
theorem r27_body : Try.f27.body = some c27 := by kernel_rfl
theorem rf27_ok : RFok E 27 rf27 := by
  show RFok' E 27 rf27
  refine ⟨Try.f27, r27_fn, fun call fuel base args m r _ h => ?_⟩
  unfold rf27 at h
  split at h
  · rw [← r27_eq] at h
    exact kbody_sound (c := c27) r27_body (Eq.mpr (r27_lk call fuel base) (And.intro trivial (And.intro (And.intro trivial (And.intro (And.intro trivial trivial) trivial)) (And.intro (And.intro trivial (And.intro (And.intro trivial trivial) trivial)) (And.intro trivial (And.intro (And.intro trivial (r27_L0_ok call fuel base)) (And.intro trivial trivial))))))) h
  · simp at h
end Go.AM
namespace Go.AM
open Go Go.Proofs
noncomputable def r29 (call : CallF) (fuel base : Nat) (x0 : Value) (x1 : Value) (m : M) : Res2 :=
  (k2 (xbox m x0) fun v2_1 m => (k1 (xload E.P m 23 v2_1) fun v6_2 => (kc (call base 61 [v6_2, x1, (.func (.func 62) #[] #[])] m) (fun v8_3 m => (k1 (mextract 0 v8_3) fun v9_4 => (k1 (mextract 1 v8_3) fun v10_5 => (some (.ret (.tuple #[v9_4, v10_5]), m))))) (fun v m => some (.pan v, m)))))
def keep29 : Keep := { region := fun i => ([[1, 2], [4, 5]] : List (List Nat))[i]?, exit := fun i => ([] : List (List Nat))[i]?, ret := some [4, 5] }
noncomputable def lp29 (call : CallF) (fuel base : Nat) : Lp := lpsel []
noncomputable def c29 : Code := Try.f29.body.getD .skip
theorem r29_eq (call : CallF) (fuel base : Nat) (x0 : Value) (x1 : Value) (m : M) : kbody E call keep29 (lp29 call fuel base) base Try.f29 [x0, x1] m = r29 call fuel base x0 x1 m := by
  kernel_rfl
noncomputable def rf29 : RF := fun call fuel base args m => match args with
  | [x0, x1] => r29 call fuel base x0 x1 m
  | _ => none
theorem r29_lk (call : CallF) (fuel base : Nat) : LoopsOk E call (lp29 call fuel base) fuel base 0 c29 = (And True (And True True)) := by kernel_rfl
theorem r29_fn : E.P.funcs[29]? = some Try.f29 := by kernel_rfl
theorem r29_body : Try.f29.body = some c29 := by kernel_rfl
theorem rf29_ok : RFok E 29 rf29 := by
  show RFok' E 29 rf29
  refine ⟨Try.f29, r29_fn, fun call fuel base args m r _ h => ?_⟩
  unfold rf29 at h
  split at h
  · rw [← r29_eq] at h
    exact kbody_sound (c := c29) r29_body (Eq.mpr (r29_lk call fuel base) (And.intro trivial (And.intro trivial trivial))) h
  · simp at h
end Go.AM
namespace Go.AM
open Go Go.Proofs
noncomputable def r30 (call : CallF) (fuel base : Nat) (x0 : Value) (x1 : Value) (m : M) : Res2 :=
  (k2 (xbox m x0) fun v2_1 m => (k1 (xload E.P m 23 v2_1) fun v6_2 => (kc (call base 61 [v6_2, x1, (.func (.func 63) #[] #[])] m) (fun v8_3 m => (k1 (mextract 0 v8_3) fun v9_4 => (k1 (mextract 1 v8_3) fun v10_5 => (some (.ret (.tuple #[v9_4, v10_5]), m))))) (fun v m => some (.pan v, m)))))
def keep30 : Keep := { region := fun i => ([[1, 2], [4, 5]] : List (List Nat))[i]?, exit := fun i => ([] : List (List Nat))[i]?, ret := some [4, 5] }
noncomputable def lp30 (call : CallF) (fuel base : Nat) : Lp := lpsel []
noncomputable def c30 : Code := Try.f30.body.getD .skip
theorem r30_eq (call : CallF) (fuel base : Nat) (x0 : Value) (x1 : Value) (m : M) : kbody E call keep30 (lp30 call fuel base) base Try.f30 [x0, x1] m = r30 call fuel base x0 x1 m := by
  kernel_rfl
noncomputable def rf30 : RF := fun call fuel base args m => match args with
  | [x0, x1] => r30 call fuel base x0 x1 m
  | _ => none
theorem r30_lk (call : CallF) (fuel base : Nat) : LoopsOk E call (lp30 call fuel base) fuel base 0 c30 = (And True (And True True)) := by kernel_rfl
theorem r30_fn : E.P.funcs[30]? = some Try.f30 := by kernel_rfl
theorem r30_body : Try.f30.body = some c30 := by kernel_rfl
theorem rf30_ok : RFok E 30 rf30 := by
  show RFok' E 30 rf30
  refine ⟨Try.f30, r30_fn, fun call fuel base args m r _ h => ?_⟩
  unfold rf30 at h
  split at h
  · rw [← r30_eq] at h
    exact kbody_sound (c := c30) r30_body (Eq.mpr (r30_lk call fuel base) (And.intro trivial (And.intro trivial trivial))) h
  · simp at h
end Go.AM
namespace Go.AM
open Go Go.Proofs
noncomputable def r31 (call : CallF) (fuel base : Nat) (x0 : Value) (x1 : Value) (m : M) : Res2 :=
  (k2 (xbox m x0) fun v2_1 m => (k1 (xload E.P m 23 v2_1) fun v6_2 => (kc (call base 61 [v6_2, x1, (.func (.func 64) #[] #[])] m) (fun v8_3 m => (k1 (mextract 0 v8_3) fun v9_4 => (k1 (mextract 1 v8_3) fun v10_5 => (some (.ret (.tuple #[v9_4, v10_5]), m))))) (fun v m => some (.pan v, m)))))
def keep31 : Keep := { region := fun i => ([[1, 2], [4, 5]] : List (List Nat))[i]?, exit := fun i => ([] : List (List Nat))[i]?, ret := some [4, 5] }
noncomputable def lp31 (call : CallF) (fuel base : Nat) : Lp := lpsel []
noncomputable def c31 : Code := Try.f31.body.getD .skip
theorem r31_eq (call : CallF) (fuel base : Nat) (x0 : Value) (x1 : Value) (m : M) : kbody E call keep31 (lp31 call fuel base) base Try.f31 [x0, x1] m = r31 call fuel base x0 x1 m := by
  kernel_rfl
noncomputable def rf31 : RF := fun call fuel base args m => match args with
  | [x0, x1] => r31 call fuel base x0 x1 m
  | _ => none
theorem r31_lk (call : CallF) (fuel base : Nat) : LoopsOk E call (lp31 call fuel base) fuel base 0 c31 = (And True (And True True)) := by kernel_rfl
theorem r31_fn : E.P.funcs[31]? = some Try.f31 := by kernel_rfl
theorem r31_body : Try.f31.body = some c31 := by kernel_rfl
theorem rf31_ok : RFok E 31 rf31 := by
  show RFok' E 31 rf31
  refine ⟨Try.f31, r31_fn, fun call fuel base args m r _ h => ?_⟩
  unfold rf31 at h
  split at h
  · rw [← r31_eq] at h
    exact kbody_sound (c := c31) r31_body (Eq.mpr (r31_lk call fuel base) (And.intro trivial (And.intro trivial trivial))) h
  · simp at h
end Go.AM
namespace Go.AM
open Go Go.Proofs
noncomputable def r42 (call : CallF) (fuel base : Nat) (x0 : Value) (x1 : Value) (x2 : Value) (x3 : Value) (m : M) : Res2 :=
  (k2 (xalloc E.P m 23) fun v8_1 m => (k1 (mbin E .rem 5 x0 (.int .u8 4)) fun v16_2 => (k1 (mconvert E.P 5 3 v16_2) fun v17_3 => (k1 (mbin E .add 3 (.int .i64 1) v17_3) fun v18_4 => (k1 (mbin E .rem 5 x1 (.int .u8 4)) fun v20_5 => (k1 (mconvert E.P 5 3 v20_5) fun v21_6 => (k1 (mbin E .add 3 (.int .i64 1) v21_6) fun v22_7 => (k1 (mbin E .rem 5 x2 (.int .u8 4)) fun v24_8 => (k1 (mconvert E.P 5 3 v24_8) fun v25_9 => (k1 (mbin E .add 3 (.int .i64 1) v25_9) fun v26_10 => (k1 (mbuild E.P 23 [(0, v18_4), (1, v22_7), (2, v26_10)]) fun v27_11 => (k2 (xalloc E.P m 23) fun v10_12 m => (ks (xstore E.P base m 23 v10_12 v27_11) fun m => (k1 (xload E.P m 23 v10_12) fun v29_13 => (kc (call base 15 [v29_13] m) (fun v30_14 m => (k1 (mextract 0 v30_14) fun v31_15 => (k1 (mextract 1 v30_14) fun v32_16 => (k1 (xload E.P m 23 v10_12) fun v34_17 => (k1 (mconvert E.P 58 3 x3) fun v36_18 => (k1 (mbin E .rem 3 v36_18 v31_15) fun v38_19 => (kc (kB m (call m.length 27 [v34_17, v38_19] m)) (fun v39_20 m => (k1 (mextract 0 v39_20) fun v40_21 => (k1 (mextract 1 v39_20) fun v41_22 => (k1 (xload E.P m 23 v10_12) fun v42_23 => (ks (xstore E.P base m 23 v8_1 v42_23) fun m => (k0 (mload E.P m 23 v8_1) fun r_24 => (some (.ret (.tuple #[r_24, v40_21]), m)))))))) (fun _ _ => none)))))))) (fun v m => some (.pan v, m)))))))))))))))))
def keep42 : Keep := { region := fun i => ([[0, 1, 2, 3, 8], [3, 8, 10], [3, 8, 10, 11], [8, 10, 13], [8, 9]] : List (List Nat))[i]?, exit := fun i => ([] : List (List Nat))[i]?, ret := some [8, 9] }
noncomputable def lp42 (call : CallF) (fuel base : Nat) : Lp := lpsel []
noncomputable def c42 : Code := Try.f42.body.getD .skip
theorem r42_eq (call : CallF) (fuel base : Nat) (x0 : Value) (x1 : Value) (x2 : Value) (x3 : Value) (m : M) : kbody E call keep42 (lp42 call fuel base) base Try.f42 [x0, x1, x2, x3] m = r42 call fuel base x0 x1 x2 x3 m := by
  kernel_rfl
noncomputable def rf42 : RF := fun call fuel base args m => match args with
  | [x0, x1, x2, x3] => r42 call fuel base x0 x1 x2 x3 m
  | _ => none
theorem r42_lk (call : CallF) (fuel base : Nat) : LoopsOk E call (lp42 call fuel base) fuel base 0 c42 = (And True (And True (And True (And True (And True True))))) := by kernel_rfl
theorem r42_fn : E.P.funcs[42]? = some Try.f42 := by kernel_rfl
theorem r42_body : Try.f42.body = some c42 := by kernel_rfl
theorem rf42_ok : RFok E 42 rf42 := by
  show RFok' E 42 rf42
  refine ⟨Try.f42, r42_fn, fun call fuel base args m r _ h => ?_⟩
  unfold rf42 at h
  split at h
  · rw [← r42_eq] at h
    exact kbody_sound (c := c42) r42_body (Eq.mpr (r42_lk call fuel base) (And.intro trivial (And.intro trivial (And.intro trivial (And.intro trivial (And.intro trivial trivial)))))) h
  · simp at h
end Go.AM
namespace Go.AM
open Go Go.Proofs
noncomputable def r43_L2 (call : CallF) (fuel base : Nat) (kx2 : Value → Value → Value → M → Res2) (n : Nat) : Value → Value → Value → Value → M → Res2 :=
  Nat.rec (motive := fun _ => Value → Value → Value → Value → M → Res2) (fun _ _ _ _ _ => none)
    (fun _ ih x0 x3 x4 x5 m =>
      (k1 (mindexAddr E.P 33 x0 x4) fun v15_3 => (k1 (xload E.P m 27 v15_3) fun v16_4 => (k2 (vcall E.P base m .len [27] [v16_4]) fun v17_5 m => (k1 (mbin E .lss 3 x5 v17_5) fun v18_6 => (kb v18_6 (k1 (mindexAddr E.P 33 x0 x4) fun v24_7 => (k1 (xload E.P m 27 v24_7) fun v25_8 => (k1 (mindexAddr E.P 27 v25_8 x5) fun v27_9 => (k1 (xload E.P m 3 v27_9) fun v28_10 => (k1 (mbin E .add 3 x3 v28_10) fun v29_11 => (k1 (mbin E .add 3 x5 (.int .i64 1)) fun v20_12 => (ih x0 v29_11 x4 v20_12 m))))))) (kx2 x0 x3 x4 m))))))) n
noncomputable def r43_L0 (call : CallF) (fuel base : Nat) (kx0 : Value → M → Res2) (n : Nat) : Value → Value → Value → M → Res2 :=
  Nat.rec (motive := fun _ => Value → Value → Value → M → Res2) (fun _ _ _ _ => none)
    (fun _ ih x0 x3 x4 m =>
      (k2 (vcall E.P base m .len [33] [x0]) fun v8_1 m => (k1 (mbin E .lss 3 x4 v8_1) fun v9_2 => (kb v9_2 (r43_L2 call fuel base (fun y0_13 y3_14 y4_15 m => (k1 (mbin E .add 3 y4_15 (.int .i64 1)) fun v11_16 => (ih y0_13 y3_14 v11_16 m))) fuel x0 x3 x4 (.int .i64 0) m) (kx0 x3 m))))) n
noncomputable def r43 (call : CallF) (fuel base : Nat) (x0 : Value) (m : M) : Res2 :=
  (r43_L0 call fuel base (fun y3_17 m => (fVal y3_17 fun v => some (.ret v, m))) fuel x0 (.int .i64 0) (.int .i64 0) m)
def keep43 : Keep := { region := fun i => ([[0], [0, 3], [0, 3, 4], [0, 3, 4, 9], [0, 3, 4], [0, 3, 4, 5], [0, 3, 4, 5, 18], [0, 3, 4, 5], [0, 3, 4, 5], [2]] : List (List Nat))[i]?, exit := fun i => ([[3], [0, 3, 4], [0, 3, 4], [0, 3, 4, 5]] : List (List Nat))[i]?, ret := some [2] }
noncomputable def r43_L2_R (call : CallF) (fuel base n : Nat) (vs : List Value) (m : M) (K : KT) : Res2 := match vs with
  | [x0, x3, x4, x5] => r43_L2 call fuel base (fun y0 y3 y4 m => K (.exit 2) { n := 31, l := [(0, y0), (3, y3), (4, y4)] } m) n x0 x3 x4 x5 m
  | _ => none
noncomputable def r43_L0_R (call : CallF) (fuel base n : Nat) (vs : List Value) (m : M) (K : KT) : Res2 := match vs with
  | [x0, x3, x4] => r43_L0 call fuel base (fun y3 m => K (.exit 0) { n := 31, l := [(3, y3)] } m) n x0 x3 x4 m
  | _ => none
noncomputable def lp43 (call : CallF) (fuel base : Nat) : Lp := lpsel [(2, fun T m K => kslots 31 [0, 3, 4, 5] T fun vs => r43_L2_R call fuel base fuel vs m K), (0, fun T m K => kslots 31 [0, 3, 4] T fun vs => r43_L0_R call fuel base fuel vs m K)]
noncomputable def c43 : Code := Try.f43.body.getD .skip
theorem r43_L2_lk (call : CallF) (fuel base : Nat) : LoopsOk E call (lp43 call fuel base) fuel base 2 (loopB (blockB (seqR (blockB (seqL (seqR (loopB (blockB (seqR (seqL (seqR (seqR c43)))))))))))) = (And (And True (And True True)) (And True True)) := by kernel_rfl
theorem r43_L2_ok (call : CallF) (fuel base : Nat) : LpOk E call (lp43 call fuel base) fuel base 2 (loopB (blockB (seqR (blockB (seqL (seqR (loopB (blockB (seqR (seqL (seqR (seqR c43)))))))))))) := by
  refine loop_ok (kp := keep43) (hb := Eq.mpr (r43_L2_lk call fuel base) (And.intro (And.intro trivial (And.intro trivial trivial)) (And.intro trivial trivial))) 31 [0, 3, 4, 5] (fun n vs m K => r43_L2_R call fuel base n vs m K) ?_ ?_ (fun _ _ _ => rfl)
  · intro vs m K
    unfold r43_L2_R
    split <;> rfl
  · intro n vs m K hl
    match vs, hl with
    | [x0, x3, x4, x5], _ => show _ = _; kernel_rfl
theorem r43_L0_lk (call : CallF) (fuel base : Nat) : LoopsOk E call (lp43 call fuel base) fuel base 0 (loopB (blockB (seqR (seqL (seqR (seqR c43)))))) = (And (And True (And True True)) (And (And True (LpOk E call (lp43 call fuel base) fuel base 2 (loopB (blockB (seqR (blockB (seqL (seqR (loopB (blockB (seqR (seqL (seqR (seqR c43)))))))))))))) True)) := by kernel_rfl
theorem r43_L0_ok (call : CallF) (fuel base : Nat) : LpOk E call (lp43 call fuel base) fuel base 0 (loopB (blockB (seqR (seqL (seqR (seqR c43)))))) := by
  refine loop_ok (kp := keep43) (hb := Eq.mpr (r43_L0_lk call fuel base) (And.intro (And.intro trivial (And.intro trivial trivial)) (And.intro (And.intro trivial (r43_L2_ok call fuel base)) trivial))) 31 [0, 3, 4] (fun n vs m K => r43_L0_R call fuel base n vs m K) ?_ ?_ (fun _ _ _ => rfl)
  · intro vs m K
    unfold r43_L0_R
    split <;> rfl
  · intro n vs m K hl
    match vs, hl with
    | [x0, x3, x4], _ => show _ = _; kernel_rfl
theorem r43_eq (call : CallF) (fuel base : Nat) (x0 : Value) (m : M) : kbody E call keep43 (lp43 call fuel base) base Try.f43 [x0] m = r43 call fuel base x0 m := by
  kernel_rfl
noncomputable def rf43 : RF := fun call fuel base args m => match args with
  | [x0] => r43 call fuel base x0 m
  | _ => none
theorem r43_lk (call : CallF) (fuel base : Nat) : LoopsOk E call (lp43 call fuel base) fuel base 0 c43 = (And True (And True (And (And True (LpOk E call (lp43 call fuel base) fuel base 0 (loopB (blockB (seqR (seqL (seqR (seqR c43)))))))) (And True True)))) := by kernel_rfl
theorem r43_fn : E.P.funcs[43]? = some Try.f43 := by kernel_rfl
theorem r43_body : Try.f43.body = some c43 := by kernel_rfl
theorem rf43_ok : RFok E 43 rf43 := by
  show RFok' E 43 rf43
  refine ⟨Try.f43, r43_fn, fun call fuel base args m r _ h => ?_⟩
  unfold rf43 at h
  split at h
  · rw [← r43_eq] at h
    exact kbody_sound (c := c43) r43_body (Eq.mpr (r43_lk call fuel base) (And.intro trivial (And.intro trivial (And.intro (And.intro trivial (r43_L0_ok call fuel base)) (And.intro trivial trivial))))) h
  · simp at h
end Go.AM
namespace Go.AM
open Go Go.Proofs
noncomputable def r44_L2 (call : CallF) (fuel base : Nat) (kx2 : M → Res2) (n : Nat) : Value → Value → Value → M → Res2 :=
  Nat.rec (motive := fun _ => Value → Value → Value → M → Res2) (fun _ _ _ _ => none)
    (fun _ ih x1 x2 x8 m =>
      (k1 (mfieldAddr E.P 23 x2 0) fun v52_29 => (k1 (xload E.P m 3 v52_29) fun v53_30 => (k1 (mfieldAddr E.P 23 x2 1) fun v54_31 => (k1 (xload E.P m 3 v54_31) fun v55_32 => (k1 (mbin E .mul 3 v53_30 v55_32) fun v56_33 => (k1 (mbin E .lss 3 x8 v56_33) fun v57_34 => (kb v57_34 (k1 (mfieldAddr E.P 23 x2 1) fun v62_35 => (k1 (xload E.P m 3 v62_35) fun v63_36 => (k1 (mbin E .quo 3 x8 v63_36) fun v64_37 => (k1 (mindexAddr E.P 33 x1 v64_37) fun v65_38 => (k1 (xload E.P m 27 v65_38) fun v66_39 => (k1 (mfieldAddr E.P 23 x2 1) fun v68_40 => (k1 (xload E.P m 3 v68_40) fun v69_41 => (k1 (mbin E .rem 3 x8 v69_41) fun v70_42 => (k1 (mindexAddr E.P 27 v66_39 v70_42) fun v71_43 => (ks (xstore E.P base m 3 v71_43 (.int .i64 0)) fun m => (k1 (mbin E .add 3 x8 (.int .i64 1)) fun v59_44 => (ih x1 x2 v59_44 m)))))))))))) (kx2 m))))))))) n
noncomputable def r44_L0 (call : CallF) (fuel base : Nat) (kr : Value → M → Res2) (kx0 : M → Res2) (n : Nat) : Value → Value → Value → M → Res2 :=
  Nat.rec (motive := fun _ => Value → Value → Value → M → Res2) (fun _ _ _ _ => none)
    (fun _ ih x1 x2 x5 m =>
      (k1 (mbin E .geq 3 x5 (.int .i64 0)) fun v16_8 => (kb v16_8 (k1 (mfieldAddr E.P 23 x2 1) fun v20_9 => (k1 (xload E.P m 3 v20_9) fun v21_10 => (k1 (mbin E .quo 3 x5 v21_10) fun v22_11 => (k1 (mfieldAddr E.P 23 x2 1) fun v24_12 => (k1 (xload E.P m 3 v24_12) fun v25_13 => (k1 (mbin E .rem 3 x5 v25_13) fun v26_14 => (k1 (mindexAddr E.P 33 x1 v22_11) fun v29_15 => (k1 (xload E.P m 27 v29_15) fun v30_16 => (k1 (mindexAddr E.P 27 v30_16 v26_14) fun v32_17 => (k1 (xload E.P m 3 v32_17) fun v33_18 => (k1 (xload E.P m 23 x2) fun v34_19 => (kc (kB m (call m.length 74 [v34_19, x1, v22_11, v26_14] m)) (fun v38_20 m => (k1 (mbin E .lss 3 v33_18 v38_20) fun v39_21 => (kb v39_21 (k1 (mindexAddr E.P 33 x1 v22_11) fun v42_22 => (k1 (xload E.P m 27 v42_22) fun v43_23 => (k1 (mindexAddr E.P 27 v43_23 v26_14) fun v45_24 => (k1 (xload E.P m 3 v45_24) fun v46_25 => (k1 (mbin E .add 3 v46_25 (.int .i64 1)) fun v47_26 => (k1 (mindexAddr E.P 27 v43_23 v26_14) fun v48_27 => (ks (xstore E.P base m 3 v48_27 v47_26) fun m => (k1 (mbin E .add 3 x5 (.int .i64 1)) fun v50_28 => (r44_L2 call fuel base (fun m => (kr (.bool true) m)) fuel x1 x2 v50_28 m))))))))) (k1 (mbin E .sub 3 x5 (.int .i64 1)) fun v18_45 => (ih x1 x2 v18_45 m))))) (fun _ _ => none))))))))))))) (kx0 m)))) n
noncomputable def r44 (call : CallF) (fuel base : Nat) (x0 : Value) (x1 : Value) (m : M) : Res2 :=
  (k2 (xbox m x0) fun v2_1 m => (k1 (mfieldAddr E.P 23 v2_1 0) fun v9_2 => (k1 (xload E.P m 3 v9_2) fun v10_3 => (k1 (mfieldAddr E.P 23 v2_1 1) fun v11_4 => (k1 (xload E.P m 3 v11_4) fun v12_5 => (k1 (mbin E .mul 3 v10_3 v12_5) fun v13_6 => (k1 (mbin E .sub 3 v13_6 (.int .i64 1)) fun v14_7 => (r44_L0 call fuel base (fun y4_46 m => (fVal y4_46 fun v => some (.ret v, m))) (fun m => (fVal (.bool false) fun v => some (.ret v, m))) fuel x1 v2_1 v14_7 m))))))))
def keep44 : Keep := { region := fun i => ([[1, 2], [1, 2, 5], [1, 2, 5, 16], [1, 2, 5], [1, 2, 5, 6, 7], [1, 2, 5, 6, 7, 39], [1, 2, 5], [1, 2, 8], [1, 2, 8, 57], [1, 2, 8], [1, 2, 8], [4], [4]] : List (List Nat))[i]?, exit := fun i => ([[], [1, 2, 5], [], [1, 2, 8]] : List (List Nat))[i]?, ret := some [4] }
noncomputable def r44_L2_R (call : CallF) (fuel base n : Nat) (vs : List Value) (m : M) (K : KT) : Res2 := match vs with
  | [x1, x2, x8] => r44_L2 call fuel base (fun m => K (.exit 2) { n := 72, l := [] } m) n x1 x2 x8 m
  | _ => none
noncomputable def r44_L0_R (call : CallF) (fuel base n : Nat) (vs : List Value) (m : M) (K : KT) : Res2 := match vs with
  | [x1, x2, x5] => r44_L0 call fuel base (fun y4 m => K .ret { n := 72, l := [(4, y4)] } m) (fun m => K (.exit 0) { n := 72, l := [] } m) n x1 x2 x5 m
  | _ => none
noncomputable def lp44 (call : CallF) (fuel base : Nat) : Lp := lpsel [(2, fun T m K => kslots 72 [1, 2, 8] T fun vs => r44_L2_R call fuel base fuel vs m K), (0, fun T m K => kslots 72 [1, 2, 5] T fun vs => r44_L0_R call fuel base fuel vs m K)]
noncomputable def c44 : Code := Try.f44.body.getD .skip
theorem r44_L2_lk (call : CallF) (fuel base : Nat) : LoopsOk E call (lp44 call fuel base) fuel base 2 (loopB (blockB (seqR (seqL (seqR (condT (seqR (seqR (blockB (seqL (seqR (loopB (blockB (seqR (seqL (seqR c44)))))))))))))))) = (And (And True (And True True)) (And True True)) := by kernel_rfl
theorem r44_L2_ok (call : CallF) (fuel base : Nat) : LpOk E call (lp44 call fuel base) fuel base 2 (loopB (blockB (seqR (seqL (seqR (condT (seqR (seqR (blockB (seqL (seqR (loopB (blockB (seqR (seqL (seqR c44)))))))))))))))) := by
  refine loop_ok (kp := keep44) (hb := Eq.mpr (r44_L2_lk call fuel base) (And.intro (And.intro trivial (And.intro trivial trivial)) (And.intro trivial trivial))) 72 [1, 2, 8] (fun n vs m K => r44_L2_R call fuel base n vs m K) ?_ ?_ (fun _ _ _ => rfl)
  · intro vs m K
    unfold r44_L2_R
    split <;> rfl
  · intro n vs m K hl
    match vs, hl with
    | [x1, x2, x8], _ => show _ = _; kernel_rfl
theorem r44_L0_lk (call : CallF) (fuel base : Nat) : LoopsOk E call (lp44 call fuel base) fuel base 0 (loopB (blockB (seqR (seqL (seqR c44))))) = (And (And True (And True True)) (And (And True (And True (And (And True (And (And True (LpOk E call (lp44 call fuel base) fuel base 2 (loopB (blockB (seqR (seqL (seqR (condT (seqR (seqR (blockB (seqL (seqR (loopB (blockB (seqR (seqL (seqR c44)))))))))))))))))) (And True True))) True))) True)) := by kernel_rfl
theorem r44_L0_ok (call : CallF) (fuel base : Nat) : LpOk E call (lp44 call fuel base) fuel base 0 (loopB (blockB (seqR (seqL (seqR c44))))) := by
  refine loop_ok (kp := keep44) (hb := Eq.mpr (r44_L0_lk call fuel base) (And.intro (And.intro trivial (And.intro trivial trivial)) (And.intro (And.intro trivial (And.intro trivial (And.intro (And.intro trivial (And.intro (And.intro trivial (r44_L2_ok call fuel base)) (And.intro trivial trivial))) trivial))) trivial))) 72 [1, 2, 5] (fun n vs m K => r44_L0_R call fuel base n vs m K) ?_ ?_ (fun _ _ _ => rfl)
  · intro vs m K
    unfold r44_L0_R
    split <;> rfl
  · intro n vs m K hl
    match vs, hl with
    | [x1, x2, x5], _ => show _ = _; kernel_rfl
theorem r44_eq (call : CallF) (fuel base : Nat) (x0 : Value) (x1 : Value) (m : M) : kbody E call keep44 (lp44 call fuel base) base Try.f44 [x0, x1] m = r44 call fuel base x0 x1 m := by
  kernel_rfl
noncomputable def rf44 : RF := fun call fuel base args m => match args with
  | [x0, x1] => r44 call fuel base x0 x1 m
  | _ => none
theorem r44_lk (call : CallF) (fuel base : Nat) : LoopsOk E call (lp44 call fuel base) fuel base 0 c44 = (And True (And (And True (LpOk E call (lp44 call fuel base) fuel base 0 (loopB (blockB (seqR (seqL (seqR c44))))))) (And True True))) := by kernel_rfl
theorem r44_fn : E.P.funcs[44]? = some Try.f44 := by kernel_rfl
theorem r44_body : Try.f44.body = some c44 := by kernel_rfl
theorem rf44_ok : RFok E 44 rf44 := by
  show RFok' E 44 rf44
  refine ⟨Try.f44, r44_fn, fun call fuel base args m r _ h => ?_⟩
  unfold rf44 at h
  split at h
  · rw [← r44_eq] at h
    exact kbody_sound (c := c44) r44_body (Eq.mpr (r44_lk call fuel base) (And.intro trivial (And.intro (And.intro trivial (r44_L0_ok call fuel base)) (And.intro trivial trivial)))) h
  · simp at h
end Go.AM
namespace Go.AM
open Go Go.Proofs
noncomputable def r47 (call : CallF) (fuel base : Nat) (x0 : Value) (m : M) : Res2 :=
  (k2 (xbox m x0) fun v1_1 m => (k1 (mfieldAddr E.P 23 v1_1 0) fun v3_2 => (k1 (xload E.P m 3 v3_2) fun v4_3 => (kc (call base 75 [v4_3] m) (fun v5_4 m => (kb v5_4 (k1 (mfieldAddr E.P 23 v1_1 1) fun v7_5 => (k1 (xload E.P m 3 v7_5) fun v8_6 => (kc (call base 75 [v8_6] m) (fun v9_7 m => (kb v9_7 (k1 (mfieldAddr E.P 23 v1_1 2) fun v12_8 => (k1 (xload E.P m 3 v12_8) fun v13_9 => (kc (call base 75 [v13_9] m) (fun v14_10 m => (fVal v14_10 fun v => some (.ret v, m))) (fun v m => some (.pan v, m))))) (fVal (.bool false) fun v => some (.ret v, m)))) (fun v m => some (.pan v, m))))) (fVal (.bool false) fun v => some (.ret v, m)))) (fun v m => some (.pan v, m))))))
def keep47 : Keep := { region := fun i => ([[1], [2]] : List (List Nat))[i]?, exit := fun i => ([] : List (List Nat))[i]?, ret := some [2] }
noncomputable def lp47 (call : CallF) (fuel base : Nat) : Lp := lpsel []
noncomputable def c47 : Code := Try.f47.body.getD .skip
theorem r47_eq (call : CallF) (fuel base : Nat) (x0 : Value) (m : M) : kbody E call keep47 (lp47 call fuel base) base Try.f47 [x0] m = r47 call fuel base x0 m := by
  kernel_rfl
noncomputable def rf47 : RF := fun call fuel base args m => match args with
  | [x0] => r47 call fuel base x0 m
  | _ => none
theorem r47_lk (call : CallF) (fuel base : Nat) : LoopsOk E call (lp47 call fuel base) fuel base 0 c47 = (And True (And True True)) := by kernel_rfl
theorem r47_fn : E.P.funcs[47]? = some Try.f47 := by kernel_rfl
theorem r47_body : Try.f47.body = some c47 := by kernel_rfl
theorem rf47_ok : RFok E 47 rf47 := by
  show RFok' E 47 rf47
  refine ⟨Try.f47, r47_fn, fun call fuel base args m r _ h => ?_⟩
  unfold rf47 at h
  split at h
  · rw [← r47_eq] at h
    exact kbody_sound (c := c47) r47_body (Eq.mpr (r47_lk call fuel base) (And.intro trivial (And.intro trivial trivial))) h
  · simp at h
end Go.AM
namespace Go.AM
open Go Go.Proofs
noncomputable def r48_L2 (call : CallF) (fuel base : Nat) (kx2 : Value → Value → Value → Value → M → Res2) (n : Nat) : Value → Value → Value → Value → Value → M → Res2 :=
  Nat.rec (motive := fun _ => Value → Value → Value → Value → Value → M → Res2) (fun _ _ _ _ _ _ => none)
    (fun _ ih x1 x3 x4 x5 x6 m =>
      (k1 (mfieldAddr E.P 23 x1 1) fun v14_5 => (k1 (xload E.P m 3 v14_5) fun v15_6 => (k1 (mbin E .leq 3 x6 v15_6) fun v16_7 => (kb v16_7 (k1 (mbin E .add 3 x5 x6) fun v22_8 => (k1 (mfieldAddr E.P 23 x1 2) fun v23_9 => (k1 (xload E.P m 3 v23_9) fun v24_10 => (k1 (mbin E .add 3 v22_8 v24_10) fun v25_11 => (k1 (mbin E .sub 3 v25_11 (.int .i64 1)) fun v26_12 => (k1 (mbin E .mul 3 x3 v26_12) fun v27_13 => (k1 (mbin E .add 3 x5 x6) fun v31_14 => (k1 (mbin E .sub 3 v31_14 (.int .i64 1)) fun v32_15 => (k1 (mbin E .mul 3 x4 v32_15) fun v33_16 => (k1 (mbin E .add 3 x6 (.int .i64 1)) fun v18_17 => (ih x1 v27_13 v33_16 x5 v18_17 m))))))))))) (kx2 x1 x3 x4 x5 m)))))) n
noncomputable def r48_L0 (call : CallF) (fuel base : Nat) (kx0 : Value → Value → M → Res2) (n : Nat) : Value → Value → Value → Value → M → Res2 :=
  Nat.rec (motive := fun _ => Value → Value → Value → Value → M → Res2) (fun _ _ _ _ _ => none)
    (fun _ ih x1 x3 x4 x5 m =>
      (k1 (mfieldAddr E.P 23 x1 0) fun v8_2 => (k1 (xload E.P m 3 v8_2) fun v9_3 => (k1 (mbin E .leq 3 x5 v9_3) fun v10_4 => (kb v10_4 (r48_L2 call fuel base (fun y1_18 y3_19 y4_20 y5_21 m => (k1 (mbin E .add 3 y5_21 (.int .i64 1)) fun v12_22 => (ih y1_18 y3_19 y4_20 v12_22 m))) fuel x1 x3 x4 x5 (.int .i64 1) m) (kx0 x3 x4 m)))))) n
noncomputable def r48 (call : CallF) (fuel base : Nat) (x0 : Value) (m : M) : Res2 :=
  (k2 (xbox m x0) fun v1_1 m => (r48_L0 call fuel base (fun y3_23 y4_24 m => (k1 (mbin E .quo 3 y3_23 y4_24) fun v36_25 => (fVal v36_25 fun v => some (.ret v, m)))) fuel v1_1 (.int .i64 1) (.int .i64 1) (.int .i64 1) m))
def keep48 : Keep := { region := fun i => ([[1], [1, 3, 4], [1, 3, 4, 5], [1, 3, 4, 5, 10], [1, 3, 4, 5], [1, 3, 4, 5, 6], [1, 3, 4, 5, 6, 16], [1, 3, 4, 5, 6], [1, 3, 4, 5, 6], [1, 3, 4, 5, 6], [2]] : List (List Nat))[i]?, exit := fun i => ([[3, 4], [1, 3, 4, 5], [1, 3, 4, 5], [1, 3, 4, 5, 6]] : List (List Nat))[i]?, ret := some [2] }
noncomputable def r48_L2_R (call : CallF) (fuel base n : Nat) (vs : List Value) (m : M) (K : KT) : Res2 := match vs with
  | [x1, x3, x4, x5, x6] => r48_L2 call fuel base (fun y1 y3 y4 y5 m => K (.exit 2) { n := 37, l := [(1, y1), (3, y3), (4, y4), (5, y5)] } m) n x1 x3 x4 x5 x6 m
  | _ => none
noncomputable def r48_L0_R (call : CallF) (fuel base n : Nat) (vs : List Value) (m : M) (K : KT) : Res2 := match vs with
  | [x1, x3, x4, x5] => r48_L0 call fuel base (fun y3 y4 m => K (.exit 0) { n := 37, l := [(3, y3), (4, y4)] } m) n x1 x3 x4 x5 m
  | _ => none
noncomputable def lp48 (call : CallF) (fuel base : Nat) : Lp := lpsel [(2, fun T m K => kslots 37 [1, 3, 4, 5, 6] T fun vs => r48_L2_R call fuel base fuel vs m K), (0, fun T m K => kslots 37 [1, 3, 4, 5] T fun vs => r48_L0_R call fuel base fuel vs m K)]
noncomputable def c48 : Code := Try.f48.body.getD .skip
theorem r48_L2_lk (call : CallF) (fuel base : Nat) : LoopsOk E call (lp48 call fuel base) fuel base 2 (loopB (blockB (seqR (blockB (seqL (seqR (loopB (blockB (seqR (seqL (seqR (seqR c48)))))))))))) = (And (And True (And True True)) (And (And True True) True)) := by kernel_rfl
theorem r48_L2_ok (call : CallF) (fuel base : Nat) : LpOk E call (lp48 call fuel base) fuel base 2 (loopB (blockB (seqR (blockB (seqL (seqR (loopB (blockB (seqR (seqL (seqR (seqR c48)))))))))))) := by
  refine loop_ok (kp := keep48) (hb := Eq.mpr (r48_L2_lk call fuel base) (And.intro (And.intro trivial (And.intro trivial trivial)) (And.intro (And.intro trivial trivial) trivial))) 37 [1, 3, 4, 5, 6] (fun n vs m K => r48_L2_R call fuel base n vs m K) ?_ ?_ (fun _ _ _ => rfl)
  · intro vs m K
    unfold r48_L2_R
    split <;> rfl
  · intro n vs m K hl
    match vs, hl with
    | [x1, x3, x4, x5, x6], _ => show _ = _; kernel_rfl
theorem r48_L0_lk (call : CallF) (fuel base : Nat) : LoopsOk E call (lp48 call fuel base) fuel base 0 (loopB (blockB (seqR (seqL (seqR (seqR c48)))))) = (And (And True (And True True)) (And (And True (LpOk E call (lp48 call fuel base) fuel base 2 (loopB (blockB (seqR (blockB (seqL (seqR (loopB (blockB (seqR (seqL (seqR (seqR c48)))))))))))))) True)) := by kernel_rfl
theorem r48_L0_ok (call : CallF) (fuel base : Nat) : LpOk E call (lp48 call fuel base) fuel base 0 (loopB (blockB (seqR (seqL (seqR (seqR c48)))))) := by
  refine loop_ok (kp := keep48) (hb := Eq.mpr (r48_L0_lk call fuel base) (And.intro (And.intro trivial (And.intro trivial trivial)) (And.intro (And.intro trivial (r48_L2_ok call fuel base)) trivial))) 37 [1, 3, 4, 5] (fun n vs m K => r48_L0_R call fuel base n vs m K) ?_ ?_ (fun _ _ _ => rfl)
  · intro vs m K
    unfold r48_L0_R
    split <;> rfl
  · intro n vs m K hl
    match vs, hl with
    | [x1, x3, x4, x5], _ => show _ = _; kernel_rfl
theorem r48_eq (call : CallF) (fuel base : Nat) (x0 : Value) (m : M) : kbody E call keep48 (lp48 call fuel base) base Try.f48 [x0] m = r48 call fuel base x0 m := by
  kernel_rfl
noncomputable def rf48 : RF := fun call fuel base args m => match args with
  | [x0] => r48 call fuel base x0 m
  | _ => none
theorem r48_lk (call : CallF) (fuel base : Nat) : LoopsOk E call (lp48 call fuel base) fuel base 0 c48 = (And True (And True (And (And True (LpOk E call (lp48 call fuel base) fuel base 0 (loopB (blockB (seqR (seqL (seqR (seqR c48)))))))) (And True True)))) := by kernel_rfl
theorem r48_fn : E.P.funcs[48]? = some Try.f48 := by kernel_rfl
theorem r48_body : Try.f48.body = some c48 := by kernel_rfl
theorem rf48_ok : RFok E 48 rf48 := by
  show RFok' E 48 rf48
  refine ⟨Try.f48, r48_fn, fun call fuel base args m r _ h => ?_⟩
  unfold rf48 at h
  split at h
  · rw [← r48_eq] at h
    exact kbody_sound (c := c48) r48_body (Eq.mpr (r48_lk call fuel base) (And.intro trivial (And.intro trivial (And.intro (And.intro trivial (r48_L0_ok call fuel base)) (And.intro trivial trivial))))) h
  · simp at h
end Go.AM
namespace Go.AM
open Go Go.Proofs
noncomputable def r49_L2 (call : CallF) (fuel base : Nat) (kx2 : Value → Value → Value → Value → M → Res2) (n : Nat) : Value → Value → Value → Value → Value → Value → Value → M → Res2 :=
  Nat.rec (motive := fun _ => Value → Value → Value → Value → Value → Value → Value → M → Res2) (fun _ _ _ _ _ _ _ _ => none)
    (fun _ ih x1 x3 x4 x10 x11 x24 x25 m =>
      (k1 (mbin E .lss 3 x25 x24) fun v26_14 => (kb v26_14 (k1 (mindexAddr E.P 33 x3 x4) fun v30_15 => (k1 (xload E.P m 27 v30_15) fun v31_16 => (k1 (mfieldAddr E.P 23 x1 1) fun v33_17 => (k1 (xload E.P m 3 v33_17) fun v34_18 => (k1 (mfieldAddr E.P 23 x1 2) fun v35_19 => (k1 (xload E.P m 3 v35_19) fun v36_20 => (k1 (mbin E .add 3 v34_18 v36_20) fun v37_21 => (k1 (mfieldAddr E.P 23 x1 1) fun v38_22 => (k1 (xload E.P m 3 v38_22) fun v39_23 => (k1 (mbin E .sub 3 v39_23 x4) fun v41_24 => (k1 (mbin E .add 3 v41_24 x25) fun v43_25 => (kc (kB m (call m.length 76 [v37_21, v43_25] m)) (fun v44_26 m => (k1 (mindexAddr E.P 27 v31_16 x25) fun v45_27 => (ks (xstore E.P base m 3 v45_27 v44_26) fun m => (k1 (mbin E .add 3 x25 (.int .i64 1)) fun v46_28 => (ih x1 x3 x4 x10 x11 x24 v46_28 m))))) (fun _ _ => none))))))))))))) (kx2 x1 x3 x10 x11 m)))) n
noncomputable def r49_L0 (call : CallF) (fuel base : Nat) (kx0 : Value → M → Res2) (n : Nat) : Value → Value → Value → Value → M → Res2 :=
  Nat.rec (motive := fun _ => Value → Value → Value → Value → M → Res2) (fun _ _ _ _ _ => none)
    (fun _ ih x1 x3 x10 x11 m =>
      (k1 (mbin E .lss 3 x11 x10) fun v12_6 => (kb v12_6 (k1 (mfieldAddr E.P 23 x1 0) fun v16_7 => (k1 (xload E.P m 3 v16_7) fun v17_8 => (k2 (xmakeSlice E.P m 27 v17_8 v17_8) fun v18_9 m => (k1 (mindexAddr E.P 33 x3 x11) fun v19_10 => (ks (xstore E.P base m 27 v19_10 v18_9) fun m => (k1 (mindexAddr E.P 33 x3 x11) fun v22_11 => (k1 (xload E.P m 27 v22_11) fun v23_12 => (k2 (vcall E.P base m .len [27] [v23_12]) fun v24_13 m => (r49_L2 call fuel base (fun y1_29 y3_30 y10_31 y11_32 m => (k1 (mbin E .add 3 y11_32 (.int .i64 1)) fun v47_33 => (ih y1_29 y3_30 y10_31 v47_33 m))) fuel x1 x3 x11 x10 x11 v24_13 (.int .i64 0) m))))))))) (kx0 x3 m)))) n
noncomputable def r49 (call : CallF) (fuel base : Nat) (x0 : Value) (m : M) : Res2 :=
  (k2 (xbox m x0) fun v1_1 m => (k1 (mfieldAddr E.P 23 v1_1 0) fun v6_2 => (k1 (xload E.P m 3 v6_2) fun v7_3 => (k2 (xmakeSlice E.P m 33 v7_3 v7_3) fun v8_4 m => (k2 (vcall E.P base m .len [33] [v8_4]) fun v10_5 m => (r49_L0 call fuel base (fun y3_34 m => (kc (call base 77 [y3_34] m) (fun v49_35 m => (fVal v49_35 fun v => some (.ret v, m))) (fun v m => some (.pan v, m)))) fuel v1_1 v8_4 v10_5 (.int .i64 0) m))))))
def keep49 : Keep := { region := fun i => ([[1], [1, 3], [1, 3, 10, 11], [1, 3, 10, 11, 12], [1, 3, 4, 10, 11], [1, 3, 4, 10, 11], [1, 3, 4, 10, 11, 24, 25], [1, 3, 4, 10, 11, 24, 25, 26], [1, 3, 4, 5, 10, 11, 24, 25], [1, 3, 4, 10, 11, 24, 25], [1, 3, 4, 10, 11, 24, 25], [1, 3, 10, 11], [2]] : List (List Nat))[i]?, exit := fun i => ([[3], [1, 3, 10, 11], [1, 3, 10, 11], [1, 3, 4, 10, 11, 24, 25]] : List (List Nat))[i]?, ret := some [2] }
noncomputable def r49_L2_R (call : CallF) (fuel base n : Nat) (vs : List Value) (m : M) (K : KT) : Res2 := match vs with
  | [x1, x3, x4, x10, x11, x24, x25] => r49_L2 call fuel base (fun y1 y3 y10 y11 m => K (.exit 2) { n := 50, l := [(1, y1), (3, y3), (10, y10), (11, y11)] } m) n x1 x3 x4 x10 x11 x24 x25 m
  | _ => none
noncomputable def r49_L0_R (call : CallF) (fuel base n : Nat) (vs : List Value) (m : M) (K : KT) : Res2 := match vs with
  | [x1, x3, x10, x11] => r49_L0 call fuel base (fun y3 m => K (.exit 0) { n := 50, l := [(3, y3)] } m) n x1 x3 x10 x11 m
  | _ => none
noncomputable def lp49 (call : CallF) (fuel base : Nat) : Lp := lpsel [(2, fun T m K => kslots 50 [1, 3, 4, 10, 11, 24, 25] T fun vs => r49_L2_R call fuel base fuel vs m K), (0, fun T m K => kslots 50 [1, 3, 10, 11] T fun vs => r49_L0_R call fuel base fuel vs m K)]
noncomputable def c49 : Code := Try.f49.body.getD .skip
theorem r49_L2_lk (call : CallF) (fuel base : Nat) : LoopsOk E call (lp49 call fuel base) fuel base 2 (loopB (blockB (seqR (seqR (seqR (blockB (seqL (seqR (seqR (loopB (blockB (seqR (seqL (seqR (seqR c49))))))))))))))) = (And True (And (And True True) (And (And True True) True))) := by kernel_rfl
theorem r49_L2_ok (call : CallF) (fuel base : Nat) : LpOk E call (lp49 call fuel base) fuel base 2 (loopB (blockB (seqR (seqR (seqR (blockB (seqL (seqR (seqR (loopB (blockB (seqR (seqL (seqR (seqR c49))))))))))))))) := by
  refine loop_ok (kp := keep49) (hb := Eq.mpr (r49_L2_lk call fuel base) (And.intro trivial (And.intro (And.intro trivial trivial) (And.intro (And.intro trivial trivial) trivial)))) 50 [1, 3, 4, 10, 11, 24, 25] (fun n vs m K => r49_L2_R call fuel base n vs m K) ?_ ?_ (fun _ _ _ => rfl)
  · intro vs m K
    unfold r49_L2_R
    split <;> rfl
  · intro n vs m K hl
    match vs, hl with
    | [x1, x3, x4, x10, x11, x24, x25], _ => show _ = _; kernel_rfl
theorem r49_L0_lk (call : CallF) (fuel base : Nat) : LoopsOk E call (lp49 call fuel base) fuel base 0 (loopB (blockB (seqR (seqL (seqR (seqR c49)))))) = (And True (And (And True True) (And (And True (And True (And True (LpOk E call (lp49 call fuel base) fuel base 2 (loopB (blockB (seqR (seqR (seqR (blockB (seqL (seqR (seqR (loopB (blockB (seqR (seqL (seqR (seqR c49))))))))))))))))))) True))) := by kernel_rfl
theorem r49_L0_ok (call : CallF) (fuel base : Nat) : LpOk E call (lp49 call fuel base) fuel base 0 (loopB (blockB (seqR (seqL (seqR (seqR c49)))))) := by
  refine loop_ok (kp := keep49) (hb := Eq.mpr (r49_L0_lk call fuel base) (And.intro trivial (And.intro (And.intro trivial trivial) (And.intro (And.intro trivial (And.intro trivial (And.intro trivial (r49_L2_ok call fuel base)))) trivial)))) 50 [1, 3, 10, 11] (fun n vs m K => r49_L0_R call fuel base n vs m K) ?_ ?_ (fun _ _ _ => rfl)
  · intro vs m K
    unfold r49_L0_R
    split <;> rfl
  · intro n vs m K hl
    match vs, hl with
    | [x1, x3, x10, x11], _ => show _ = _; kernel_rfl
theorem r49_eq (call : CallF) (fuel base : Nat) (x0 : Value) (m : M) : kbody E call keep49 (lp49 call fuel base) base Try.f49 [x0] m = r49 call fuel base x0 m := by
  kernel_rfl
noncomputable def rf49 : RF := fun call fuel base args m => match args with
  | [x0] => r49 call fuel base x0 m
  | _ => none
theorem r49_lk (call : CallF) (fuel base : Nat) : LoopsOk E call (lp49 call fuel base) fuel base 0 c49 = (And True (And True (And (And True (LpOk E call (lp49 call fuel base) fuel base 0 (loopB (blockB (seqR (seqL (seqR (seqR c49)))))))) (And True True)))) := by kernel_rfl
theorem r49_fn : E.P.funcs[49]? = some Try.f49 := by kernel_rfl
theorem r49_body : Try.f49.body = some c49 := by kernel_rfl
theorem rf49_ok : RFok E 49 rf49 := by
  show RFok' E 49 rf49
  refine ⟨Try.f49, r49_fn, fun call fuel base args m r _ h => ?_⟩
  unfold rf49 at h
  split at h
  · rw [← r49_eq] at h
    exact kbody_sound (c := c49) r49_body (Eq.mpr (r49_lk call fuel base) (And.intro trivial (And.intro trivial (And.intro (And.intro trivial (r49_L0_ok call fuel base)) (And.intro trivial trivial))))) h
  · simp at h
end Go.AM
namespace Go.AM
open Go Go.Proofs
noncomputable def r50 (call : CallF) (fuel base : Nat) (x0 : Value) (m : M) : Res2 :=
  (k2 (xbox m x0) fun v1_1 m => (k1 (mfieldAddr E.P 23 v1_1 0) fun v3_2 => (k1 (xload E.P m 3 v3_2) fun v4_3 => (k1 (mbin E .geq 3 v4_3 (.int .i64 1)) fun v5_4 => (kb v5_4 (k1 (mfieldAddr E.P 23 v1_1 0) fun v7_5 => (k1 (xload E.P m 3 v7_5) fun v8_6 => (k1 (mbin E .leq 3 v8_6 (.int .i64 4)) fun v9_7 => (kb v9_7 (k1 (mfieldAddr E.P 23 v1_1 1) fun v12_8 => (k1 (xload E.P m 3 v12_8) fun v13_9 => (k1 (mbin E .geq 3 v13_9 (.int .i64 1)) fun v14_10 => (kb v14_10 (k1 (mfieldAddr E.P 23 v1_1 1) fun v17_11 => (k1 (xload E.P m 3 v17_11) fun v18_12 => (k1 (mbin E .leq 3 v18_12 (.int .i64 4)) fun v19_13 => (kb v19_13 (k1 (mfieldAddr E.P 23 v1_1 2) fun v22_14 => (k1 (xload E.P m 3 v22_14) fun v23_15 => (k1 (mbin E .geq 3 v23_15 (.int .i64 1)) fun v24_16 => (kb v24_16 (k1 (mfieldAddr E.P 23 v1_1 2) fun v27_17 => (k1 (xload E.P m 3 v27_17) fun v28_18 => (k1 (mbin E .leq 3 v28_18 (.int .i64 4)) fun v29_19 => (fVal v29_19 fun v => some (.ret v, m))))) (fVal (.bool false) fun v => some (.ret v, m)))))) (fVal (.bool false) fun v => some (.ret v, m)))))) (fVal (.bool false) fun v => some (.ret v, m)))))) (fVal (.bool false) fun v => some (.ret v, m)))))) (fVal (.bool false) fun v => some (.ret v, m)))))))
def keep50 : Keep := { region := fun i => ([[1], [2]] : List (List Nat))[i]?, exit := fun i => ([] : List (List Nat))[i]?, ret := some [2] }
noncomputable def lp50 (call : CallF) (fuel base : Nat) : Lp := lpsel []
noncomputable def c50 : Code := Try.f50.body.getD .skip
theorem r50_eq (call : CallF) (fuel base : Nat) (x0 : Value) (m : M) : kbody E call keep50 (lp50 call fuel base) base Try.f50 [x0] m = r50 call fuel base x0 m := by
  kernel_rfl
noncomputable def rf50 : RF := fun call fuel base args m => match args with
  | [x0] => r50 call fuel base x0 m
  | _ => none
theorem r50_lk (call : CallF) (fuel base : Nat) : LoopsOk E call (lp50 call fuel base) fuel base 0 c50 = (And True (And True True)) := by kernel_rfl
theorem r50_fn : E.P.funcs[50]? = some Try.f50 := by kernel_rfl
theorem r50_body : Try.f50.body = some c50 := by kernel_rfl
theorem rf50_ok : RFok E 50 rf50 := by
  show RFok' E 50 rf50
  refine ⟨Try.f50, r50_fn, fun call fuel base args m r _ h => ?_⟩
  unfold rf50 at h
  split at h
  · rw [← r50_eq] at h
    exact kbody_sound (c := c50) r50_body (Eq.mpr (r50_lk call fuel base) (And.intro trivial (And.intro trivial trivial))) h
  · simp at h
end Go.AM
namespace Go.AM
open Go Go.Proofs
noncomputable def r51 (call : CallF) (fuel base : Nat) (x0 : Value) (x1 : Value) (m : M) : Res2 :=
  (k1 (mbin E .lss 3 x1 (.int .i64 0)) fun v6_1 => (kb v6_1 (fVal (.int .i64 0) fun v => some (.ret v, m)) (k1 (mbin E .gtr 3 x1 x0) fun v10_2 => (kb v10_2 (fVal (.int .i64 0) fun v => some (.ret v, m)) (k1 (mbin E .eql 3 x1 (.int .i64 0)) fun v13_3 => (kb v13_3 (fVal (.int .i64 1) fun v => some (.ret v, m)) (k1 (mbin E .eql 3 x1 x0) fun v17_4 => (kb v17_4 (fVal (.int .i64 1) fun v => some (.ret v, m)) (k1 (mbin E .sub 3 x0 (.int .i64 1)) fun v20_5 => (k1 (mbin E .sub 3 x1 (.int .i64 1)) fun v22_6 => (kc (call base 51 [v20_5, v22_6] m) (fun v23_7 m => (k1 (mbin E .sub 3 x0 (.int .i64 1)) fun v25_8 => (kc (call base 51 [v25_8, x1] m) (fun v27_9 m => (k1 (mbin E .add 3 v23_7 v27_9) fun v28_10 => (fVal v28_10 fun v => some (.ret v, m)))) (fun v m => some (.pan v, m))))) (fun v m => some (.pan v, m)))))))))))))
def keep51 : Keep := { region := fun i => ([[0, 1], [0, 1, 11], [4], [0, 1, 18], [4], [4]] : List (List Nat))[i]?, exit := fun i => ([] : List (List Nat))[i]?, ret := some [4] }
noncomputable def lp51 (call : CallF) (fuel base : Nat) : Lp := lpsel []
noncomputable def c51 : Code := Try.f51.body.getD .skip
theorem r51_eq (call : CallF) (fuel base : Nat) (x0 : Value) (x1 : Value) (m : M) : kbody E call keep51 (lp51 call fuel base) base Try.f51 [x0, x1] m = r51 call fuel base x0 x1 m := by
  kernel_rfl
noncomputable def rf51 : RF := fun call fuel base args m => match args with
  | [x0, x1] => r51 call fuel base x0 x1 m
  | _ => none
theorem r51_lk (call : CallF) (fuel base : Nat) : LoopsOk E call (lp51 call fuel base) fuel base 0 c51 = (And True (And (And True (And (And True True) True)) (And (And True (And (And True True) True)) (And True True)))) := by kernel_rfl
theorem r51_fn : E.P.funcs[51]? = some Try.f51 := by kernel_rfl
theorem r51_body : Try.f51.body = some c51 := by kernel_rfl
theorem rf51_ok : RFok E 51 rf51 := by
  show RFok' E 51 rf51
  refine ⟨Try.f51, r51_fn, fun call fuel base args m r _ h => ?_⟩
  unfold rf51 at h
  split at h
  · rw [← r51_eq] at h
    exact kbody_sound (c := c51) r51_body (Eq.mpr (r51_lk call fuel base) (And.intro trivial (And.intro (And.intro trivial (And.intro (And.intro trivial trivial) trivial)) (And.intro (And.intro trivial (And.intro (And.intro trivial trivial) trivial)) (And.intro trivial trivial))))) h
  · simp at h
end Go.AM
namespace Go.AM
open Go Go.Proofs
noncomputable def r52_L2 (call : CallF) (fuel base : Nat) (kx2 : Value → Value → Value → Value → Value → M → Res2) (n : Nat) : Value → Value → Value → Value → Value → Value → M → Res2 :=
  Nat.rec (motive := fun _ => Value → Value → Value → Value → Value → Value → M → Res2) (fun _ _ _ _ _ _ _ => none)
    (fun _ ih x0 x3 x4 x5 x6 x7 m =>
      (k2 (vcall E.P base m .len [33] [x0]) fun v20_5 m => (k1 (mbin E .lss 3 x7 v20_5) fun v21_6 => (kb v21_6 (k1 (mindexAddr E.P 33 x0 x7) fun v27_7 => (k1 (xload E.P m 27 v27_7) fun v28_8 => (k1 (mslice E.P m 27 v28_8 none (some x5) none) fun v30_9 => (k2 (vcall E.P base m .append [27, 27] [(.slice none 0 0), v30_9]) fun v31_10 m => (k1 (mindexAddr E.P 33 x0 x7) fun v36_11 => (k1 (xload E.P m 27 v36_11) fun v37_12 => (k1 (mbin E .add 3 x5 (.int .i64 1)) fun v39_13 => (k1 (mslice E.P m 27 v37_12 (some v39_13) none none) fun v40_14 => (k2 (vcall E.P base m .append [27, 27] [v31_10, v40_14]) fun v41_15 m => (k2 (xbuildSlice E.P m 33 1 [(0, v41_15)]) fun v42_16 m => (k2 (vcall E.P base m .append [33, 33] [x6, v42_16]) fun v43_17 m => (k1 (mbin E .add 3 x7 (.int .i64 1)) fun v23_18 => (ih x0 x3 x4 x5 v43_17 v23_18 m))))))))))))) (kx2 x0 x3 x4 x5 x6 m))))) n
noncomputable def r52_L0 (call : CallF) (fuel base : Nat) (kx0 : Value → M → Res2) (n : Nat) : Value → Value → Value → Value → M → Res2 :=
  Nat.rec (motive := fun _ => Value → Value → Value → Value → M → Res2) (fun _ _ _ _ _ => none)
    (fun _ ih x0 x3 x4 x5 m =>
      (k2 (vcall E.P base m .len [33] [x0]) fun v14_3 m => (k1 (mbin E .lss 3 x5 v14_3) fun v15_4 => (kb v15_4 (r52_L2 call fuel base (fun y0_19 y3_20 y4_21 y5_22 y6_23 m => (k1 (mindexAddr E.P 33 y0_19 (.int .i64 0)) fun v47_24 => (k1 (xload E.P m 27 v47_24) fun v48_25 => (k1 (mindexAddr E.P 27 v48_25 y5_22) fun v50_26 => (k1 (xload E.P m 3 v50_26) fun v51_27 => (k1 (mbin E .mul 3 y4_21 v51_27) fun v52_28 => (kc (kB m (call m.length 52 [y6_23] m)) (fun v54_29 m => (k1 (mbin E .mul 3 v52_28 v54_29) fun v55_30 => (k1 (mbin E .add 3 y3_20 v55_30) fun v56_31 => (k1 (mun .neg y4_21) fun v58_32 => (k1 (mbin E .add 3 y5_22 (.int .i64 1)) fun v17_33 => (ih y0_19 v56_31 v58_32 v17_33 m)))))) (fun _ _ => none)))))))) fuel x0 x3 x4 x5 (.slice none 0 0) (.int .i64 1) m) (kx0 x3 m))))) n
noncomputable def r52 (call : CallF) (fuel base : Nat) (x0 : Value) (m : M) : Res2 :=
  (k2 (vcall E.P base m .len [33] [x0]) fun v10_1 m => (k1 (mbin E .eql 3 v10_1 (.int .i64 0)) fun v11_2 => (kb v11_2 (fVal (.int .i64 1) fun v => some (.ret v, m)) (r52_L0 call fuel base (fun y3_34 m => (fVal y3_34 fun v => some (.ret v, m))) fuel x0 (.int .i64 0) (.int .i64 1) (.int .i64 0) m))))
def keep52 : Keep := { region := fun i => ([[0], [0, 11], [2], [0, 3, 4], [0, 3, 4, 5], [0, 3, 4, 5, 15], [0, 3, 4, 5], [0, 3, 4, 5, 6], [0, 3, 4, 5, 6, 7], [0, 3, 4, 5, 6, 7, 21], [0, 3, 4, 5, 6, 7], [0, 3, 4, 5, 6, 7, 8], [0, 3, 4, 5, 6, 7, 8], [0, 3, 4, 5, 6, 7], [0, 3, 4, 5], [0, 3, 4, 5], [2]] : List (List Nat))[i]?, exit := fun i => ([[3], [0, 3, 4, 5], [0, 3, 4, 5, 6], [0, 3, 4, 5, 6, 7]] : List (List Nat))[i]?, ret := some [2] }
noncomputable def r52_L2_R (call : CallF) (fuel base n : Nat) (vs : List Value) (m : M) (K : KT) : Res2 := match vs with
  | [x0, x3, x4, x5, x6, x7] => r52_L2 call fuel base (fun y0 y3 y4 y5 y6 m => K (.exit 2) { n := 60, l := [(0, y0), (3, y3), (4, y4), (5, y5), (6, y6)] } m) n x0 x3 x4 x5 x6 x7 m
  | _ => none
noncomputable def r52_L0_R (call : CallF) (fuel base n : Nat) (vs : List Value) (m : M) (K : KT) : Res2 := match vs with
  | [x0, x3, x4, x5] => r52_L0 call fuel base (fun y3 m => K (.exit 0) { n := 60, l := [(3, y3)] } m) n x0 x3 x4 x5 m
  | _ => none
noncomputable def lp52 (call : CallF) (fuel base : Nat) : Lp := lpsel [(2, fun T m K => kslots 60 [0, 3, 4, 5, 6, 7] T fun vs => r52_L2_R call fuel base fuel vs m K), (0, fun T m K => kslots 60 [0, 3, 4, 5] T fun vs => r52_L0_R call fuel base fuel vs m K)]
noncomputable def c52 : Code := Try.f52.body.getD .skip
theorem r52_L2_lk (call : CallF) (fuel base : Nat) : LoopsOk E call (lp52 call fuel base) fuel base 2 (loopB (blockB (seqR (seqL (seqR (blockB (seqL (seqR (loopB (blockB (seqR (seqL (seqR (seqR (seqR c52))))))))))))))) = (And (And True (And True True)) (And (And True (And True True)) True)) := by kernel_rfl
theorem r52_L2_ok (call : CallF) (fuel base : Nat) : LpOk E call (lp52 call fuel base) fuel base 2 (loopB (blockB (seqR (seqL (seqR (blockB (seqL (seqR (loopB (blockB (seqR (seqL (seqR (seqR (seqR c52))))))))))))))) := by
  refine loop_ok (kp := keep52) (hb := Eq.mpr (r52_L2_lk call fuel base) (And.intro (And.intro trivial (And.intro trivial trivial)) (And.intro (And.intro trivial (And.intro trivial trivial)) trivial))) 60 [0, 3, 4, 5, 6, 7] (fun n vs m K => r52_L2_R call fuel base n vs m K) ?_ ?_ (fun _ _ _ => rfl)
  · intro vs m K
    unfold r52_L2_R
    split <;> rfl
  · intro n vs m K hl
    match vs, hl with
    | [x0, x3, x4, x5, x6, x7], _ => show _ = _; kernel_rfl
theorem r52_L0_lk (call : CallF) (fuel base : Nat) : LoopsOk E call (lp52 call fuel base) fuel base 0 (loopB (blockB (seqR (seqL (seqR (seqR (seqR c52))))))) = (And (And True (And True True)) (And (And True (And (And True (LpOk E call (lp52 call fuel base) fuel base 2 (loopB (blockB (seqR (seqL (seqR (blockB (seqL (seqR (loopB (blockB (seqR (seqL (seqR (seqR (seqR c52))))))))))))))))) (And True True))) True)) := by kernel_rfl
theorem r52_L0_ok (call : CallF) (fuel base : Nat) : LpOk E call (lp52 call fuel base) fuel base 0 (loopB (blockB (seqR (seqL (seqR (seqR (seqR c52))))))) := by
  refine loop_ok (kp := keep52) (hb := Eq.mpr (r52_L0_lk call fuel base) (And.intro (And.intro trivial (And.intro trivial trivial)) (And.intro (And.intro trivial (And.intro (And.intro trivial (r52_L2_ok call fuel base)) (And.intro trivial trivial))) trivial))) 60 [0, 3, 4, 5] (fun n vs m K => r52_L0_R call fuel base n vs m K) ?_ ?_ (fun _ _ _ => rfl)
  · intro vs m K
    unfold r52_L0_R
    split <;> rfl
  · intro n vs m K hl
    match vs, hl with
    | [x0, x3, x4, x5], _ => show _ = _; kernel_rfl
theorem r52_eq (call : CallF) (fuel base : Nat) (x0 : Value) (m : M) : kbody E call keep52 (lp52 call fuel base) base Try.f52 [x0] m = r52 call fuel base x0 m := by
  kernel_rfl
noncomputable def rf52 : RF := fun call fuel base args m => match args with
  | [x0] => r52 call fuel base x0 m
  | _ => none
theorem r52_lk (call : CallF) (fuel base : Nat) : LoopsOk E call (lp52 call fuel base) fuel base 0 c52 = (And True (And (And True (And (And True True) True)) (And True (And (And True (LpOk E call (lp52 call fuel base) fuel base 0 (loopB (blockB (seqR (seqL (seqR (seqR (seqR c52))))))))) (And True True))))) := by kernel_rfl
theorem r52_fn : E.P.funcs[52]? = some Try.f52 := by kernel_rfl
theorem r52_body : Try.f52.body = some c52 := by kernel_rfl
theorem rf52_ok : RFok E 52 rf52 := by
  show RFok' E 52 rf52
  refine ⟨Try.f52, r52_fn, fun call fuel base args m r _ h => ?_⟩
  unfold rf52 at h
  split at h
  · rw [← r52_eq] at h
    exact kbody_sound (c := c52) r52_body (Eq.mpr (r52_lk call fuel base) (And.intro trivial (And.intro (And.intro trivial (And.intro (And.intro trivial trivial) trivial)) (And.intro trivial (And.intro (And.intro trivial (r52_L0_ok call fuel base)) (And.intro trivial trivial)))))) h
  · simp at h
end Go.AM
namespace Go.AM
open Go Go.Proofs
noncomputable def r54_L0 (call : CallF) (fuel base : Nat) (kx0 : Value → M → Res2) (n : Nat) : Value → Value → Value → M → Res2 :=
  Nat.rec (motive := fun _ => Value → Value → Value → M → Res2) (fun _ _ _ _ => none)
    (fun _ ih x1 x3 x4 m =>
      (k1 (mfieldAddr E.P 23 x1 0) fun v6_2 => (k1 (xload E.P m 3 v6_2) fun v7_3 => (k1 (mbin E .lss 3 x4 v7_3) fun v8_4 => (kb v8_4 (k1 (mfieldAddr E.P 23 x1 1) fun v12_5 => (k1 (xload E.P m 3 v12_5) fun v13_6 => (k2 (xmakeSlice E.P m 27 v13_6 v13_6) fun v14_7 m => (k2 (xbuildSlice E.P m 33 1 [(0, v14_7)]) fun v15_8 m => (k2 (vcall E.P base m .append [33, 33] [x3, v15_8]) fun v16_9 m => (k1 (mbin E .add 3 x4 (.int .i64 1)) fun v10_10 => (ih x1 v16_9 v10_10 m))))))) (kx0 x3 m)))))) n
noncomputable def r54 (call : CallF) (fuel base : Nat) (x0 : Value) (m : M) : Res2 :=
  (k2 (xbox m x0) fun v1_1 m => (r54_L0 call fuel base (fun y3_11 m => (fVal y3_11 fun v => some (.ret v, m))) fuel v1_1 (.slice none 0 0) (.int .i64 0) m))
def keep54 : Keep := { region := fun i => ([[1], [1, 3], [1, 3, 4], [1, 3, 4, 8], [1, 3, 4], [1, 3, 4], [2]] : List (List Nat))[i]?, exit := fun i => ([[3], [1, 3, 4]] : List (List Nat))[i]?, ret := some [2] }
noncomputable def r54_L0_R (call : CallF) (fuel base n : Nat) (vs : List Value) (m : M) (K : KT) : Res2 := match vs with
  | [x1, x3, x4] => r54_L0 call fuel base (fun y3 m => K (.exit 0) { n := 18, l := [(3, y3)] } m) n x1 x3 x4 m
  | _ => none
noncomputable def lp54 (call : CallF) (fuel base : Nat) : Lp := lpsel [(0, fun T m K => kslots 18 [1, 3, 4] T fun vs => r54_L0_R call fuel base fuel vs m K)]
noncomputable def c54 : Code := Try.f54.body.getD .skip
theorem r54_L0_lk (call : CallF) (fuel base : Nat) : LoopsOk E call (lp54 call fuel base) fuel base 0 (loopB (blockB (seqR (seqL (seqR (seqR c54)))))) = (And (And True (And True True)) (And True True)) := by kernel_rfl
theorem r54_L0_ok (call : CallF) (fuel base : Nat) : LpOk E call (lp54 call fuel base) fuel base 0 (loopB (blockB (seqR (seqL (seqR (seqR c54)))))) := by
  refine loop_ok (kp := keep54) (hb := Eq.mpr (r54_L0_lk call fuel base) (And.intro (And.intro trivial (And.intro trivial trivial)) (And.intro trivial trivial))) 18 [1, 3, 4] (fun n vs m K => r54_L0_R call fuel base n vs m K) ?_ ?_ (fun _ _ _ => rfl)
  · intro vs m K
    unfold r54_L0_R
    split <;> rfl
  · intro n vs m K hl
    match vs, hl with
    | [x1, x3, x4], _ => show _ = _; kernel_rfl
theorem r54_eq (call : CallF) (fuel base : Nat) (x0 : Value) (m : M) : kbody E call keep54 (lp54 call fuel base) base Try.f54 [x0] m = r54 call fuel base x0 m := by
  kernel_rfl
noncomputable def rf54 : RF := fun call fuel base args m => match args with
  | [x0] => r54 call fuel base x0 m
  | _ => none
theorem r54_lk (call : CallF) (fuel base : Nat) : LoopsOk E call (lp54 call fuel base) fuel base 0 c54 = (And True (And True (And (And True (LpOk E call (lp54 call fuel base) fuel base 0 (loopB (blockB (seqR (seqL (seqR (seqR c54)))))))) (And True True)))) := by kernel_rfl
theorem r54_fn : E.P.funcs[54]? = some Try.f54 := by kernel_rfl
theorem r54_body : Try.f54.body = some c54 := by kernel_rfl
theorem rf54_ok : RFok E 54 rf54 := by
  show RFok' E 54 rf54
  refine ⟨Try.f54, r54_fn, fun call fuel base args m r _ h => ?_⟩
  unfold rf54 at h
  split at h
  · rw [← r54_eq] at h
    exact kbody_sound (c := c54) r54_body (Eq.mpr (r54_lk call fuel base) (And.intro trivial (And.intro trivial (And.intro (And.intro trivial (r54_L0_ok call fuel base)) (And.intro trivial trivial))))) h
  · simp at h
end Go.AM
namespace Go.AM
open Go Go.Proofs
noncomputable def r55_L2 (call : CallF) (fuel base : Nat) (kp : Value → M → Res2) (kr : Value → Value → M → Res2) (kx2 : Value → Value → Value → Value → Value → Value → M → Res2) (n : Nat) : Value → Value → Value → Value → Value → Value → Value → Value → Value → Value → M → Res2 :=
  Nat.rec (motive := fun _ => Value → Value → Value → Value → Value → Value → Value → Value → Value → Value → M → Res2) (fun _ _ _ _ _ _ _ _ _ _ _ => none)
    (fun _ ih x2 x4 x6 x7 x19 x20 x21 x32 x33 x34 m =>
      (k1 (mbin E .lss 3 x34 x33) fun v35_22 => (kb v35_22 (k1 (mindexAddr E.P 27 x32 x34) fun v37_23 => (k1 (xload E.P m 3 v37_23) fun v38_24 => (k1 (mbin E .lss 3 v38_24 (.int .i64 0)) fun v40_25 => (kb v40_25 (k1 (mbuild E.P 79 []) fun v49_26 => (ks (xstore E.P base m 79 x4 v49_26) fun m => (kr x4 (.bool false) m))) (k1 (xload E.P m 79 x6) fun v43_27 => (kc (call base 80 [v43_27, x7, x34] m) (fun v46_28 m => (k1 (mbin E .gtr 3 v38_24 v46_28) fun v47_29 => (kb v47_29 (k1 (mbuild E.P 79 []) fun v49_30 => (ks (xstore E.P base m 79 x4 v49_30) fun m => (kr x4 (.bool false) m))) (k1 (mfieldAddr E.P 79 x6 1) fun v53_31 => (k1 (mindexAddr E.P 77 v53_31 x7) fun v54_32 => (k1 (mindexAddr E.P 76 v54_32 x34) fun v55_33 => (ks (xstore E.P base m 3 v55_33 v38_24) fun m => (k1 (mbin E .add 3 x34 (.int .i64 1)) fun v56_34 => (ih x2 x4 x6 x7 x19 x20 x21 x32 x33 v56_34 m))))))))) (fun v m => kp v m))))))) (kx2 x2 x4 x6 x19 x20 x21 m)))) n
noncomputable def r55_L0 (call : CallF) (fuel base : Nat) (kp : Value → M → Res2) (kr : Value → Value → M → Res2) (kx0 : Value → Value → M → Res2) (n : Nat) : Value → Value → Value → Value → Value → Value → M → Res2 :=
  Nat.rec (motive := fun _ => Value → Value → Value → Value → Value → Value → M → Res2) (fun _ _ _ _ _ _ _ => none)
    (fun _ ih x2 x4 x6 x19 x20 x21 m =>
      (k1 (mbin E .lss 3 x21 x20) fun v22_13 => (kb v22_13 (k1 (mindexAddr E.P 33 x19 x21) fun v24_14 => (k1 (xload E.P m 27 v24_14) fun v25_15 => (k2 (vcall E.P base m .len [27] [v25_15]) fun v27_16 m => (k1 (mfieldAddr E.P 23 x2 1) fun v28_17 => (k1 (xload E.P m 3 v28_17) fun v29_18 => (k1 (mbin E .neq 3 v27_16 v29_18) fun v30_19 => (kb v30_19 (k1 (mbuild E.P 79 []) fun v31_20 => (ks (xstore E.P base m 79 x4 v31_20) fun m => (kr x4 (.bool false) m))) (k2 (vcall E.P base m .len [27] [v25_15]) fun v33_21 m => (r55_L2 call fuel base (fun v m => kp v m) (fun y4_35 y5_36 m => (kr y4_35 y5_36 m)) (fun y2_37 y4_38 y6_39 y19_40 y20_41 y21_42 m => (k1 (mbin E .add 3 y21_42 (.int .i64 1)) fun v57_43 => (ih y2_37 y4_38 y6_39 y19_40 y20_41 v57_43 m))) fuel x2 x4 x6 x21 x19 x20 x21 v25_15 v33_21 (.int .i64 0) m))))))))) (kx0 x4 x6 m)))) n
noncomputable def r55 (call : CallF) (fuel base : Nat) (x0 : Value) (x1 : Value) (m : M) : Res2 :=
  (k2 (xbox m x0) fun v2_1 m => (k2 (xalloc E.P m 79) fun v4_2 m => (k2 (vcall E.P base m .len [33] [x1]) fun v12_3 m => (k1 (mfieldAddr E.P 23 v2_1 0) fun v13_4 => (k1 (xload E.P m 3 v13_4) fun v14_5 => (k1 (mbin E .neq 3 v12_3 v14_5) fun v15_6 => (kb v15_6 (k1 (mbuild E.P 79 []) fun v16_7 => (ks (xstore E.P base m 79 v4_2 v16_7) fun m => (k0 (mload E.P m 79 v4_2) fun r_8 => (some (.ret (.tuple #[r_8, (.bool false)]), m))))) (k1 (xload E.P m 23 v2_1) fun v17_9 => (k1 (mbuild E.P 79 [(0, v17_9)]) fun v18_10 => (k2 (xalloc E.P m 79) fun v6_11 m => (ks (xstore E.P base m 79 v6_11 v18_10) fun m => (k2 (vcall E.P base m .len [33] [x1]) fun v20_12 m => (r55_L0 call fuel base (fun v m => some (.pan v, m)) (fun y4_44 y5_45 m => (k0 (mload E.P m 79 y4_44) fun r_46 => (some (.ret (.tuple #[r_46, y5_45]), m)))) (fun y4_47 y6_48 m => (k1 (xload E.P m 79 y6_48) fun v58_49 => (ks (xstore E.P base m 79 y4_47 v58_49) fun m => (k0 (mload E.P m 79 y4_47) fun r_50 => (some (.ret (.tuple #[r_50, (.bool true)]), m)))))) fuel v2_1 v4_2 v6_11 x1 v20_12 (.int .i64 0) m)))))))))))))
def keep55 : Keep := { region := fun i => ([[1, 2, 4], [1, 2, 4, 15], [4, 5], [1, 2, 4, 6], [2, 4, 6, 19, 20, 21], [2, 4, 6, 19, 20, 21, 22], [2, 4, 6, 7, 8, 19, 20, 21], [2, 4, 6, 7, 8, 19, 20, 21, 30], [4, 5], [2, 4, 6, 7, 19, 20, 21, 32, 33, 34], [2, 4, 6, 7, 19, 20, 21, 32, 33, 34, 35], [2, 4, 6, 7, 9, 10, 19, 20, 21, 32, 33, 34], [2, 4, 6, 7, 9, 10, 19, 20, 21, 32, 33, 34, 48], [4, 5], [2, 4, 6, 7, 19, 20, 21, 32, 33, 34], [2, 4, 6, 7, 19, 20, 21, 32, 33, 34], [2, 4, 6, 19, 20, 21], [4, 5]] : List (List Nat))[i]?, exit := fun i => ([[4, 6], [2, 4, 6, 19, 20, 21], [2, 4, 6, 19, 20, 21], [2, 4, 6, 7, 19, 20, 21, 32, 33, 34]] : List (List Nat))[i]?, ret := some [4, 5] }
noncomputable def r55_L2_R (call : CallF) (fuel base n : Nat) (vs : List Value) (m : M) (K : KT) : Res2 := match vs with
  | [x2, x4, x6, x7, x19, x20, x21, x32, x33, x34] => r55_L2 call fuel base (fun v m => K (.pan v) { n := 59, l := [] } m) (fun y4 y5 m => K .ret { n := 59, l := [(4, y4), (5, y5)] } m) (fun y2 y4 y6 y19 y20 y21 m => K (.exit 2) { n := 59, l := [(2, y2), (4, y4), (6, y6), (19, y19), (20, y20), (21, y21)] } m) n x2 x4 x6 x7 x19 x20 x21 x32 x33 x34 m
  | _ => none
noncomputable def r55_L0_R (call : CallF) (fuel base n : Nat) (vs : List Value) (m : M) (K : KT) : Res2 := match vs with
  | [x2, x4, x6, x19, x20, x21] => r55_L0 call fuel base (fun v m => K (.pan v) { n := 59, l := [] } m) (fun y4 y5 m => K .ret { n := 59, l := [(4, y4), (5, y5)] } m) (fun y4 y6 m => K (.exit 0) { n := 59, l := [(4, y4), (6, y6)] } m) n x2 x4 x6 x19 x20 x21 m
  | _ => none
noncomputable def lp55 (call : CallF) (fuel base : Nat) : Lp := lpsel [(2, fun T m K => kslots 59 [2, 4, 6, 7, 19, 20, 21, 32, 33, 34] T fun vs => r55_L2_R call fuel base fuel vs m K), (0, fun T m K => kslots 59 [2, 4, 6, 19, 20, 21] T fun vs => r55_L0_R call fuel base fuel vs m K)]
noncomputable def c55 : Code := Try.f55.body.getD .skip
theorem r55_L2_lk (call : CallF) (fuel base : Nat) : LoopsOk E call (lp55 call fuel base) fuel base 2 (loopB (blockB (seqR (seqR (seqR (blockB (seqL (seqR (seqR (loopB (blockB (seqR (seqL (seqR (seqR (seqR c55)))))))))))))))) = (And True (And (And True True) (And (And True (And (And True (And (And True True) True)) True)) True))) := by kernel_rfl
theorem r55_L2_ok (call : CallF) (fuel base : Nat) : LpOk E call (lp55 call fuel base) fuel base 2 (loopB (blockB (seqR (seqR (seqR (blockB (seqL (seqR (seqR (loopB (blockB (seqR (seqL (seqR (seqR (seqR c55)))))))))))))))) := by
  refine loop_ok (kp := keep55) (hb := Eq.mpr (r55_L2_lk call fuel base) (And.intro trivial (And.intro (And.intro trivial trivial) (And.intro (And.intro trivial (And.intro (And.intro trivial (And.intro (And.intro trivial trivial) trivial)) trivial)) trivial)))) 59 [2, 4, 6, 7, 19, 20, 21, 32, 33, 34] (fun n vs m K => r55_L2_R call fuel base n vs m K) ?_ ?_ (fun _ _ _ => rfl)
  · intro vs m K
    unfold r55_L2_R
    split <;> rfl
  · intro n vs m K hl
    match vs, hl with
    | [x2, x4, x6, x7, x19, x20, x21, x32, x33, x34], _ => show _ = _; kernel_rfl
theorem r55_L0_lk (call : CallF) (fuel base : Nat) : LoopsOk E call (lp55 call fuel base) fuel base 0 (loopB (blockB (seqR (seqL (seqR (seqR (seqR c55))))))) = (And True (And (And True True) (And (And True (And (And True (And (And True True) True)) (And True (LpOk E call (lp55 call fuel base) fuel base 2 (loopB (blockB (seqR (seqR (seqR (blockB (seqL (seqR (seqR (loopB (blockB (seqR (seqL (seqR (seqR (seqR c55)))))))))))))))))))) True))) := by kernel_rfl
theorem r55_L0_ok (call : CallF) (fuel base : Nat) : LpOk E call (lp55 call fuel base) fuel base 0 (loopB (blockB (seqR (seqL (seqR (seqR (seqR c55))))))) := by
  refine loop_ok (kp := keep55) (hb := Eq.mpr (r55_L0_lk call fuel base) (And.intro trivial (And.intro (And.intro trivial trivial) (And.intro (And.intro trivial (And.intro (And.intro trivial (And.intro (And.intro trivial trivial) trivial)) (And.intro trivial (r55_L2_ok call fuel base)))) trivial)))) 59 [2, 4, 6, 19, 20, 21] (fun n vs m K => r55_L0_R call fuel base n vs m K) ?_ ?_ (fun _ _ _ => rfl)
  · intro vs m K
    unfold r55_L0_R
    split <;> rfl
  · intro n vs m K hl
    match vs, hl with
    | [x2, x4, x6, x19, x20, x21], _ => show _ = _; kernel_rfl
theorem r55_eq (call : CallF) (fuel base : Nat) (x0 : Value) (x1 : Value) (m : M) : kbody E call keep55 (lp55 call fuel base) base Try.f55 [x0, x1] m = r55 call fuel base x0 x1 m := by
  kernel_rfl
noncomputable def rf55 : RF := fun call fuel base args m => match args with
  | [x0, x1] => r55 call fuel base x0 x1 m
  | _ => none
theorem r55_lk (call : CallF) (fuel base : Nat) : LoopsOk E call (lp55 call fuel base) fuel base 0 c55 = (And True (And (And True (And (And True True) True)) (And True (And (And True (LpOk E call (lp55 call fuel base) fuel base 0 (loopB (blockB (seqR (seqL (seqR (seqR (seqR c55))))))))) (And True True))))) := by kernel_rfl
theorem r55_fn : E.P.funcs[55]? = some Try.f55 := by kernel_rfl
theorem r55_body : Try.f55.body = some c55 := by kernel_rfl
theorem rf55_ok : RFok E 55 rf55 := by
  show RFok' E 55 rf55
  refine ⟨Try.f55, r55_fn, fun call fuel base args m r _ h => ?_⟩
  unfold rf55 at h
  split at h
  · rw [← r55_eq] at h
    exact kbody_sound (c := c55) r55_body (Eq.mpr (r55_lk call fuel base) (And.intro trivial (And.intro (And.intro trivial (And.intro (And.intro trivial trivial) trivial)) (And.intro trivial (And.intro (And.intro trivial (r55_L0_ok call fuel base)) (And.intro trivial trivial)))))) h
  · simp at h
end Go.AM
namespace Go.AM
open Go Go.Proofs
noncomputable def r56 (call : CallF) (fuel base : Nat) (x0 : Value) (x1 : Value) (m : M) : Res2 :=
  (k2 (xbox m x0) fun v2_1 m => (k2 (xalloc E.P m 79) fun v4_2 m => (k1 (xload E.P m 23 v2_1) fun v8_3 => (kc (call base 47 [v8_3] m) (fun v9_4 m => (k1 (mun .not v9_4) fun v10_5 => (kb v10_5 (k1 (mbuild E.P 79 []) fun v11_6 => (ks (xstore E.P base m 79 v4_2 v11_6) fun m => (k0 (mload E.P m 79 v4_2) fun r_7 => (some (.ret (.tuple #[r_7, (.int .i64 2)]), m))))) (k1 (xload E.P m 23 v2_1) fun v13_8 => (kc (call base 55 [v13_8, x1] m) (fun v15_9 m => (k1 (mextract 0 v15_9) fun v16_10 => (k1 (mextract 1 v15_9) fun v17_11 => (k2 (xalloc E.P m 79) fun v6_12 m => (ks (xstore E.P base m 79 v6_12 v16_10) fun m => (k1 (mun .not v17_11) fun v19_13 => (kb v19_13 (k1 (mbuild E.P 79 []) fun v20_14 => (ks (xstore E.P base m 79 v4_2 v20_14) fun m => (k0 (mload E.P m 79 v4_2) fun r_15 => (some (.ret (.tuple #[r_15, (.int .i64 2)]), m))))) (k1 (xload E.P m 79 v6_12) fun v21_16 => (ks (xstore E.P base m 79 v4_2 v21_16) fun m => (k0 (mload E.P m 79 v4_2) fun r_17 => (some (.ret (.tuple #[r_17, (.int .i64 0)]), m)))))))))))) (fun v m => some (.pan v, m))))))) (fun v m => some (.pan v, m))))))
def keep56 : Keep := { region := fun i => ([[1, 2, 4], [1, 2, 4, 10], [4, 5], [4, 6, 7], [4, 6, 19], [4, 5], [4, 5]] : List (List Nat))[i]?, exit := fun i => ([] : List (List Nat))[i]?, ret := some [4, 5] }
noncomputable def lp56 (call : CallF) (fuel base : Nat) : Lp := lpsel []
noncomputable def c56 : Code := Try.f56.body.getD .skip
theorem r56_eq (call : CallF) (fuel base : Nat) (x0 : Value) (x1 : Value) (m : M) : kbody E call keep56 (lp56 call fuel base) base Try.f56 [x0, x1] m = r56 call fuel base x0 x1 m := by
  kernel_rfl
noncomputable def rf56 : RF := fun call fuel base args m => match args with
  | [x0, x1] => r56 call fuel base x0 x1 m
  | _ => none
theorem r56_lk (call : CallF) (fuel base : Nat) : LoopsOk E call (lp56 call fuel base) fuel base 0 c56 = (And True (And (And True (And (And True True) True)) (And True (And (And True (And (And True True) True)) (And True True))))) := by kernel_rfl
theorem r56_fn : E.P.funcs[56]? = some Try.f56 := by kernel_rfl
theorem r56_body : Try.f56.body = some c56 := by kernel_rfl
theorem rf56_ok : RFok E 56 rf56 := by
  show RFok' E 56 rf56
  refine ⟨Try.f56, r56_fn, fun call fuel base args m r _ h => ?_⟩
  unfold rf56 at h
  split at h
  · rw [← r56_eq] at h
    exact kbody_sound (c := c56) r56_body (Eq.mpr (r56_lk call fuel base) (And.intro trivial (And.intro (And.intro trivial (And.intro (And.intro trivial trivial) trivial)) (And.intro trivial (And.intro (And.intro trivial (And.intro (And.intro trivial trivial) trivial)) (And.intro trivial trivial)))))) h
  · simp at h
end Go.AM
namespace Go.AM
open Go Go.Proofs
noncomputable def r57_L0 (call : CallF) (fuel base : Nat) (kp : Value → M → Res2) (kx0 : Value → M → Res2) (n : Nat) : Value → Value → Value → Value → Value → Value → Value → M → Res2 :=
  Nat.rec (motive := fun _ => Value → Value → Value → Value → Value → Value → Value → M → Res2) (fun _ _ _ _ _ _ _ _ => none)
    (fun _ ih x1 x3 x4 x5 x19 x20 x21 m =>
      (k1 (mbin E .lss 3 x21 x20) fun v22_16 => (kb v22_16 (k1 (mindexAddr E.P 104 x19 x21) fun v24_17 => (k1 (xload E.P m 76 v24_17) fun v25_18 => (k2 (xalloc E.P m 76) fun v7_19 m => (ks (xstore E.P base m 76 v7_19 v25_18) fun m => (k1 (xload E.P m 106 x3) fun v26_20 => (k1 (xload E.P m 76 x5) fun v27_21 => (k1 (mfieldAddr E.P 79 x1 0) fun v28_22 => (k1 (mfieldAddr E.P 23 v28_22 0) fun v29_23 => (k1 (xload E.P m 3 v29_23) fun v30_24 => (k1 (mbin E .sub 3 v30_24 (.int .i64 1)) fun v31_25 => (k1 (mbin E .sub 3 v31_25 x21) fun v33_26 => (kc (call base 83 [v26_20, v27_21, v33_26] m) (fun v34_27 m => (kr (mrange call base v34_27 968610 { n := 46, l := [(4, x4), (7, v7_19)] } m) (fun m => (k1 (xload E.P m 76 v7_19) fun v43_30 => (ks (xstore E.P base m 76 x5 v43_30) fun m => (k1 (mbin E .add 3 x21 (.int .i64 1)) fun v44_31 => (ih x1 x3 x4 x5 x19 x20 v44_31 m))))) (fun _ => none) (kxs [(2, fun m => (k1 (xload E.P m 76 v7_19) fun v43_28 => (ks (xstore E.P base m 76 x5 v43_28) fun m => (k1 (mbin E .add 3 x21 (.int .i64 1)) fun v44_29 => (ih x1 x3 x4 x5 x19 x20 v44_29 m)))))]))) (fun v m => kp v m))))))))))))) (kx0 x4 m)))) n
noncomputable def r57_Y0 (call : CallF) (fuel base y : Nat) (x4 : Value) (x7 : Value) (x35 : Value) (x36 : Value) (m : M) : Res2 :=
  (k2 (xalloc E.P m 76) fun v8_34 m => (ks (xstore E.P base m 76 v8_34 x35) fun m => (ks (mbusy m y) fun m => (k1 (xload E.P m 76 v8_34) fun v37_35 => (k1 (xload E.P m 76 x7) fun v38_36 => (k1 (mbin E .eql 76 v37_35 v38_36) fun v39_37 => (kb v39_37 (mfin m y (some (some (.exit 2)))) (k1 (xload E.P m 3 x4) fun v40_38 => (k1 (mbin E .add 3 v40_38 x36) fun v42_39 => (ks (xstore E.P base m 3 x4 v42_39) fun m => (mfin m y (some none))))))))))))
noncomputable def r57 (call : CallF) (fuel base : Nat) (x0 : Value) (m : M) : Res2 :=
  (k2 (xbox m x0) fun v1_1 m => (k1 (mfieldAddr E.P 79 v1_1 0) fun v10_2 => (k1 (xload E.P m 23 v10_2) fun v11_3 => (kc (call base 81 [v11_3] m) (fun v12_4 m => (k2 (xalloc E.P m 106) fun v3_5 m => (ks (xstore E.P base m 106 v3_5 v12_4) fun m => (k1 (xload E.P m 106 v3_5) fun v13_6 => (kc (call base 82 [v13_6] m) (fun v14_7 m => (k2 (xalloc E.P m 3) fun v4_8 m => (k2 (xalloc E.P m 76) fun v5_9 m => (ks (xstore E.P base m 3 v4_8 (.int .i64 0)) fun m => (ks (xstore E.P base m 76 v5_9 v14_7) fun m => (k1 (mfieldAddr E.P 79 v1_1 1) fun v15_10 => (k1 (mfieldAddr E.P 79 v1_1 0) fun v16_11 => (k1 (mfieldAddr E.P 23 v16_11 0) fun v17_12 => (k1 (xload E.P m 3 v17_12) fun v18_13 => (k1 (mslice E.P m 77 v15_10 none (some v18_13) none) fun v19_14 => (k2 (vcall E.P base m .len [104] [v19_14]) fun v20_15 m => (r57_L0 call fuel base (fun v m => some (.pan v, m)) (fun y4_32 m => (k1 (xload E.P m 3 y4_32) fun v45_33 => (fVal v45_33 fun v => some (.ret v, m)))) fuel v1_1 v3_5 v4_8 v5_9 v19_14 v20_15 (.int .i64 0) m)))))))))))) (fun v m => some (.pan v, m))))))) (fun v m => some (.pan v, m))))))
def keep57 : Keep := { region := fun i => ([[1], [1, 3], [1, 3, 4, 5], [1, 3, 4, 5, 19, 20, 21], [1, 3, 4, 5, 19, 20, 21, 22], [1, 3, 4, 5, 6, 7, 19, 20, 21], [1, 3, 4, 5, 7, 19, 20, 21, 34], [4, 7, 8, 36], [4, 7, 8, 9], [4, 9, 39], [], [1, 3, 4, 5, 19, 20, 21], [1, 3, 4, 5, 19, 20, 21], [2]] : List (List Nat))[i]?, exit := fun i => ([[4], [1, 3, 4, 5, 19, 20, 21], [1, 3, 4, 5, 7, 19, 20, 21], []] : List (List Nat))[i]?, ret := some [2] }
noncomputable def r57_L0_R (call : CallF) (fuel base n : Nat) (vs : List Value) (m : M) (K : KT) : Res2 := match vs with
  | [x1, x3, x4, x5, x19, x20, x21] => r57_L0 call fuel base (fun v m => K (.pan v) { n := 46, l := [] } m) (fun y4 m => K (.exit 0) { n := 46, l := [(4, y4)] } m) n x1 x3 x4 x5 x19 x20 x21 m
  | _ => none
noncomputable def lp57 (call : CallF) (fuel base : Nat) : Lp := lpsel [(0, fun T m K => kslots 46 [1, 3, 4, 5, 19, 20, 21] T fun vs => r57_L0_R call fuel base fuel vs m K)]
noncomputable def c57 : Code := Try.f57.body.getD .skip
theorem r57_L0_lk (call : CallF) (fuel base : Nat) : LoopsOk E call (lp57 call fuel base) fuel base 0 (loopB (blockB (seqR (seqL (seqR (seqR (seqR c57))))))) = (And True (And (And True True) (And (And True (And (And True True) True)) True))) := by kernel_rfl
theorem r57_L0_ok (call : CallF) (fuel base : Nat) : LpOk E call (lp57 call fuel base) fuel base 0 (loopB (blockB (seqR (seqL (seqR (seqR (seqR c57))))))) := by
  refine loop_ok (kp := keep57) (hb := Eq.mpr (r57_L0_lk call fuel base) (And.intro trivial (And.intro (And.intro trivial trivial) (And.intro (And.intro trivial (And.intro (And.intro trivial trivial) trivial)) trivial)))) 46 [1, 3, 4, 5, 19, 20, 21] (fun n vs m K => r57_L0_R call fuel base n vs m K) ?_ ?_ (fun _ _ _ => rfl)
  · intro vs m K
    unfold r57_L0_R
    split <;> rfl
  · intro n vs m K hl
    match vs, hl with
    | [x1, x3, x4, x5, x19, x20, x21], _ => show _ = _; kernel_rfl
theorem r57_eq (call : CallF) (fuel base : Nat) (x0 : Value) (m : M) : kbody E call keep57 (lp57 call fuel base) base Try.f57 [x0] m = r57 call fuel base x0 m := by
  kernel_rfl
noncomputable def rf57 : RF := fun call fuel base args m => match args with
  | [x0] => r57 call fuel base x0 m
  | _ => none
theorem r57_lk (call : CallF) (fuel base : Nat) : LoopsOk E call (lp57 call fuel base) fuel base 0 c57 = (And True (And True (And True (And (And True (LpOk E call (lp57 call fuel base) fuel base 0 (loopB (blockB (seqR (seqL (seqR (seqR (seqR c57))))))))) (And True True))))) := by kernel_rfl
theorem r57_fn : E.P.funcs[57]? = some Try.f57 := by kernel_rfl
theorem r57_body : Try.f57.body = some c57 := by kernel_rfl
theorem rf57_ok : RFok E 57 rf57 := by
  show RFok' E 57 rf57
  refine ⟨Try.f57, r57_fn, fun call fuel base args m r _ h => ?_⟩
  unfold rf57 at h
  split at h
  · rw [← r57_eq] at h
    exact kbody_sound (c := c57) r57_body (Eq.mpr (r57_lk call fuel base) (And.intro trivial (And.intro trivial (And.intro trivial (And.intro (And.intro trivial (r57_L0_ok call fuel base)) (And.intro trivial trivial)))))) h
  · simp at h
noncomputable def site57_0 : Site := ⟨968610, [35, 36], rangeA (blockB (seqR (seqL (seqR (blockB (seqL (seqR (seqR (loopB (blockB (seqR (seqL (seqR (seqR (seqR c57))))))))))))))), rangeB (blockB (seqR (seqL (seqR (blockB (seqL (seqR (seqR (loopB (blockB (seqR (seqL (seqR (seqR (seqR c57)))))))))))))))⟩
theorem site57_0_g : gsite 968610 = some site57_0 := by kernel_rfl
theorem r57_Y0_eq (call : CallF) (fuel base y : Nat) (x4 : Value) (x7 : Value) (x35 : Value) (x36 : Value) (m : M) : kround E call keep57 (lp57 call fuel base) base y site57_0 { n := 46, l := [(4, x4), (7, x7)] } [x35, x36] m = r57_Y0 call fuel base y x4 x7 x35 x36 m := by
  kernel_rfl
noncomputable def r57_Y0_R (call : CallF) (fuel base y : Nat) (xs vs : List Value) (m : M) : Res2 := match xs, vs with
  | [x4, x7], [x35, x36] => r57_Y0 call fuel base y x4 x7 x35 x36 m
  | _, _ => none
noncomputable def y57_0 : RYs := fun call fuel base y T vs m => kslots 46 [4, 7] T fun xs => r57_Y0_R call fuel base y xs vs m
theorem r57_Y0_lA (call : CallF) (fuel base : Nat) : LoopsOk E call (lp57 call fuel base) fuel base 0 site57_0.assign = (And True True) := by kernel_rfl
theorem r57_Y0_lB (call : CallF) (fuel base : Nat) : LoopsOk E call (lp57 call fuel base) fuel base 0 site57_0.body = (And (And True (And True True)) True) := by kernel_rfl
theorem y57_0_ok : RYsOk E 968610 y57_0 := by
  intro call fuel base y T vs m r lr hC hby hm hst hk hT h
  unfold y57_0 at h
  obtain ⟨xs, hl, hsub, h⟩ := kslots_some h
  unfold r57_Y0_R at h
  split at h
  · rw [← r57_Y0_eq] at h
    exact kround_sound (Eq.mpr (r57_Y0_lA call fuel base) (And.intro trivial trivial)) (Eq.mpr (r57_Y0_lB call fuel base) (And.intro (And.intro trivial (And.intro trivial trivial)) trivial)) hby hm hst (by rw [hk]; exact site57_0_g) rfl (hT ▸ hsub) h
  · simp at h
end Go.AM
namespace Go.AM
open Go Go.Proofs
noncomputable def r60_L0 (call : CallF) (fuel base : Nat) (kx0 : Value → M → Res2) (n : Nat) : Value → Value → Value → Value → M → Res2 :=
  Nat.rec (motive := fun _ => Value → Value → Value → Value → M → Res2) (fun _ _ _ _ _ => none)
    (fun _ ih x1 x3 x10 x11 m =>
      (k1 (mbin E .lss 3 x11 x10) fun v12_7 => (kb v12_7 (k1 (mfieldAddr E.P 79 x1 1) fun v17_8 => (k1 (mindexAddr E.P 77 v17_8 x11) fun v18_9 => (k1 (mfieldAddr E.P 79 x1 0) fun v19_10 => (k1 (mfieldAddr E.P 23 v19_10 1) fun v20_11 => (k1 (xload E.P m 3 v20_11) fun v21_12 => (k1 (mslice E.P m 76 v18_9 none (some v21_12) none) fun v22_13 => (kc (kB m (call m.length 84 [v22_13] m)) (fun v23_14 m => (k1 (mindexAddr E.P 33 x3 x11) fun v24_15 => (ks (xstore E.P base m 27 v24_15 v23_14) fun m => (k1 (mbin E .add 3 x11 (.int .i64 1)) fun v25_16 => (ih x1 x3 x10 v25_16 m))))) (fun _ _ => none)))))))) (kx0 x3 m)))) n
noncomputable def r60 (call : CallF) (fuel base : Nat) (x0 : Value) (m : M) : Res2 :=
  (k2 (xbox m x0) fun v1_1 m => (k1 (mfieldAddr E.P 79 v1_1 0) fun v5_2 => (k1 (mfieldAddr E.P 23 v5_2 0) fun v6_3 => (k1 (xload E.P m 3 v6_3) fun v7_4 => (k2 (xmakeSlice E.P m 33 v7_4 v7_4) fun v8_5 m => (k2 (vcall E.P base m .len [33] [v8_5]) fun v10_6 m => (r60_L0 call fuel base (fun y3_17 m => (fVal y3_17 fun v => some (.ret v, m))) fuel v1_1 v8_5 v10_6 (.int .i64 0) m)))))))
def keep60 : Keep := { region := fun i => ([[1], [1, 3], [1, 3, 10, 11], [1, 3, 10, 11, 12], [1, 3, 4, 10, 11], [1, 3, 10, 11], [1, 3, 10, 11], [2]] : List (List Nat))[i]?, exit := fun i => ([[3], [1, 3, 10, 11]] : List (List Nat))[i]?, ret := some [2] }
noncomputable def r60_L0_R (call : CallF) (fuel base n : Nat) (vs : List Value) (m : M) (K : KT) : Res2 := match vs with
  | [x1, x3, x10, x11] => r60_L0 call fuel base (fun y3 m => K (.exit 0) { n := 27, l := [(3, y3)] } m) n x1 x3 x10 x11 m
  | _ => none
noncomputable def lp60 (call : CallF) (fuel base : Nat) : Lp := lpsel [(0, fun T m K => kslots 27 [1, 3, 10, 11] T fun vs => r60_L0_R call fuel base fuel vs m K)]
noncomputable def c60 : Code := Try.f60.body.getD .skip
theorem r60_L0_lk (call : CallF) (fuel base : Nat) : LoopsOk E call (lp60 call fuel base) fuel base 0 (loopB (blockB (seqR (seqL (seqR (seqR c60)))))) = (And True (And (And True True) (And (And True True) True))) := by kernel_rfl
theorem r60_L0_ok (call : CallF) (fuel base : Nat) : LpOk E call (lp60 call fuel base) fuel base 0 (loopB (blockB (seqR (seqL (seqR (seqR c60)))))) := by
  refine loop_ok (kp := keep60) (hb := Eq.mpr (r60_L0_lk call fuel base) (And.intro trivial (And.intro (And.intro trivial trivial) (And.intro (And.intro trivial trivial) trivial)))) 27 [1, 3, 10, 11] (fun n vs m K => r60_L0_R call fuel base n vs m K) ?_ ?_ (fun _ _ _ => rfl)
  · intro vs m K
    unfold r60_L0_R
    split <;> rfl
  · intro n vs m K hl
    match vs, hl with
    | [x1, x3, x10, x11], _ => show _ = _; kernel_rfl
theorem r60_eq (call : CallF) (fuel base : Nat) (x0 : Value) (m : M) : kbody E call keep60 (lp60 call fuel base) base Try.f60 [x0] m = r60 call fuel base x0 m := by
  kernel_rfl
noncomputable def rf60 : RF := fun call fuel base args m => match args with
  | [x0] => r60 call fuel base x0 m
  | _ => none
theorem r60_lk (call : CallF) (fuel base : Nat) : LoopsOk E call (lp60 call fuel base) fuel base 0 c60 = (And True (And True (And (And True (LpOk E call (lp60 call fuel base) fuel base 0 (loopB (blockB (seqR (seqL (seqR (seqR c60)))))))) (And True True)))) := by kernel_rfl
theorem r60_fn : E.P.funcs[60]? = some Try.f60 := by kernel_rfl
theorem r60_body : Try.f60.body = some c60 := by kernel_rfl
theorem rf60_ok : RFok E 60 rf60 := by
  show RFok' E 60 rf60
  refine ⟨Try.f60, r60_fn, fun call fuel base args m r _ h => ?_⟩
  unfold rf60 at h
  split at h
  · rw [← r60_eq] at h
    exact kbody_sound (c := c60) r60_body (Eq.mpr (r60_lk call fuel base) (And.intro trivial (And.intro trivial (And.intro (And.intro trivial (r60_L0_ok call fuel base)) (And.intro trivial trivial))))) h
  · simp at h
end Go.AM
namespace Go.AM
open Go Go.Proofs
noncomputable def r61 (call : CallF) (fuel base : Nat) (x0 : Value) (x1 : Value) (x2 : Value) (m : M) : Res2 :=
  (k2 (xbox m x0) fun v3_1 m => (k1 (xload E.P m 23 v3_1) fun v11_2 => (kc (call base 56 [v11_2, x1] m) (fun v13_3 m => (k1 (mextract 0 v13_3) fun v14_4 => (k1 (mextract 1 v13_3) fun v15_5 => (k2 (xalloc E.P m 79) fun v8_6 m => (ks (xstore E.P base m 79 v8_6 v14_4) fun m => (k1 (mbin E .neq 24 v15_5 (.int .i64 0)) fun v17_7 => (kb v17_7 (some (.ret (.tuple #[(.slice none 0 0), v15_5]), m)) (k1 (xload E.P m 79 v8_6) fun v20_8 => (kc (kv call base x2 [v20_8] m) (fun v21_9 m => (kc (call base 60 [v21_9] m) (fun v22_10 m => (some (.ret (.tuple #[v22_10, (.int .i64 0)]), m))) (fun v m => some (.pan v, m)))) (fun v m => some (.pan v, m))))))))))) (fun v m => some (.pan v, m)))))
def keep61 : Keep := { region := fun i => ([[1, 2, 3], [2, 8, 9], [2, 8, 9, 17], [6, 7], [6, 7]] : List (List Nat))[i]?, exit := fun i => ([] : List (List Nat))[i]?, ret := some [6, 7] }
noncomputable def lp61 (call : CallF) (fuel base : Nat) : Lp := lpsel []
noncomputable def c61 : Code := Try.f61.body.getD .skip
theorem r61_eq (call : CallF) (fuel base : Nat) (x0 : Value) (x1 : Value) (x2 : Value) (m : M) : kbody E call keep61 (lp61 call fuel base) base Try.f61 [x0, x1, x2] m = r61 call fuel base x0 x1 x2 m := by
  kernel_rfl
noncomputable def rf61 : RF := fun call fuel base args m => match args with
  | [x0, x1, x2] => r61 call fuel base x0 x1 x2 m
  | _ => none
theorem r61_lk (call : CallF) (fuel base : Nat) : LoopsOk E call (lp61 call fuel base) fuel base 0 c61 = (And True (And True (And (And True (And (And True True) True)) (And True True)))) := by kernel_rfl
theorem r61_fn : E.P.funcs[61]? = some Try.f61 := by kernel_rfl
theorem r61_body : Try.f61.body = some c61 := by kernel_rfl
theorem rf61_ok : RFok E 61 rf61 := by
  show RFok' E 61 rf61
  refine ⟨Try.f61, r61_fn, fun call fuel base args m r _ h => ?_⟩
  unfold rf61 at h
  split at h
  · rw [← r61_eq] at h
    exact kbody_sound (c := c61) r61_body (Eq.mpr (r61_lk call fuel base) (And.intro trivial (And.intro trivial (And.intro (And.intro trivial (And.intro (And.intro trivial trivial) trivial)) (And.intro trivial trivial))))) h
  · simp at h
end Go.AM
namespace Go.AM
open Go Go.Proofs
noncomputable def r62 (call : CallF) (fuel base : Nat) (x0 : Value) (m : M) : Res2 :=
  (k2 (xbox m x0) fun v1_1 m => (k2 (xalloc E.P m 79) fun v2_2 m => (k1 (mfieldAddr E.P 79 v1_1 0) fun v4_3 => (k1 (xload E.P m 23 v4_3) fun v5_4 => (k2 (xalloc E.P m 23) fun v3_5 m => (ks (xstore E.P base m 23 v3_5 v5_4) fun m => (k1 (xload E.P m 23 v3_5) fun v6_6 => (kc (call base 85 [v6_6, (.func (.func 86) #[] #[v3_5, v1_1])] m) (fun v8_7 m => (ks (xstore E.P base m 79 v2_2 v8_7) fun m => (k0 (mload E.P m 79 v2_2) fun r_8 => (fVal r_8 fun v => some (.ret v, m))))) (fun v m => some (.pan v, m))))))))))
def keep62 : Keep := { region := fun i => ([[1, 2], [1, 2, 3], [2]] : List (List Nat))[i]?, exit := fun i => ([] : List (List Nat))[i]?, ret := some [2] }
noncomputable def lp62 (call : CallF) (fuel base : Nat) : Lp := lpsel []
noncomputable def c62 : Code := Try.f62.body.getD .skip
theorem r62_eq (call : CallF) (fuel base : Nat) (x0 : Value) (m : M) : kbody E call keep62 (lp62 call fuel base) base Try.f62 [x0] m = r62 call fuel base x0 m := by
  kernel_rfl
noncomputable def rf62 : RF := fun call fuel base args m => match args with
  | [x0] => r62 call fuel base x0 m
  | _ => none
theorem r62_lk (call : CallF) (fuel base : Nat) : LoopsOk E call (lp62 call fuel base) fuel base 0 c62 = (And True (And True (And True True))) := by kernel_rfl
theorem r62_fn : E.P.funcs[62]? = some Try.f62 := by kernel_rfl
theorem r62_body : Try.f62.body = some c62 := by kernel_rfl
theorem rf62_ok : RFok E 62 rf62 := by
  show RFok' E 62 rf62
  refine ⟨Try.f62, r62_fn, fun call fuel base args m r _ h => ?_⟩
  unfold rf62 at h
  split at h
  · rw [← r62_eq] at h
    exact kbody_sound (c := c62) r62_body (Eq.mpr (r62_lk call fuel base) (And.intro trivial (And.intro trivial (And.intro trivial trivial)))) h
  · simp at h
end Go.AM
namespace Go.AM
open Go Go.Proofs
noncomputable def r63 (call : CallF) (fuel base : Nat) (x0 : Value) (m : M) : Res2 :=
  (k2 (xbox m x0) fun v1_1 m => (k2 (xalloc E.P m 79) fun v2_2 m => (k1 (mfieldAddr E.P 79 v1_1 0) fun v4_3 => (k1 (xload E.P m 23 v4_3) fun v5_4 => (k2 (xalloc E.P m 23) fun v3_5 m => (ks (xstore E.P base m 23 v3_5 v5_4) fun m => (k1 (mfieldAddr E.P 23 v3_5 1) fun v6_6 => (k1 (xload E.P m 3 v6_6) fun v7_7 => (k1 (mfieldAddr E.P 23 v3_5 0) fun v8_8 => (k1 (xload E.P m 3 v8_8) fun v9_9 => (k1 (mfieldAddr E.P 23 v3_5 2) fun v10_10 => (k1 (xload E.P m 3 v10_10) fun v11_11 => (k1 (mbuild E.P 23 [(0, v7_7), (1, v9_9), (2, v11_11)]) fun v12_12 => (kc (call base 85 [v12_12, (.func (.func 87) #[] #[v1_1])] m) (fun v14_13 m => (ks (xstore E.P base m 79 v2_2 v14_13) fun m => (k0 (mload E.P m 79 v2_2) fun r_14 => (fVal r_14 fun v => some (.ret v, m))))) (fun v m => some (.pan v, m))))))))))))))))
def keep63 : Keep := { region := fun i => ([[1, 2], [1, 2, 3], [2]] : List (List Nat))[i]?, exit := fun i => ([] : List (List Nat))[i]?, ret := some [2] }
noncomputable def lp63 (call : CallF) (fuel base : Nat) : Lp := lpsel []
noncomputable def c63 : Code := Try.f63.body.getD .skip
theorem r63_eq (call : CallF) (fuel base : Nat) (x0 : Value) (m : M) : kbody E call keep63 (lp63 call fuel base) base Try.f63 [x0] m = r63 call fuel base x0 m := by
  kernel_rfl
noncomputable def rf63 : RF := fun call fuel base args m => match args with
  | [x0] => r63 call fuel base x0 m
  | _ => none
theorem r63_lk (call : CallF) (fuel base : Nat) : LoopsOk E call (lp63 call fuel base) fuel base 0 c63 = (And True (And True (And True True))) := by kernel_rfl
theorem r63_fn : E.P.funcs[63]? = some Try.f63 := by kernel_rfl
theorem r63_body : Try.f63.body = some c63 := by kernel_rfl
theorem rf63_ok : RFok E 63 rf63 := by
  show RFok' E 63 rf63
  refine ⟨Try.f63, r63_fn, fun call fuel base args m r _ h => ?_⟩
  unfold rf63 at h
  split at h
  · rw [← r63_eq] at h
    exact kbody_sound (c := c63) r63_body (Eq.mpr (r63_lk call fuel base) (And.intro trivial (And.intro trivial (And.intro trivial trivial)))) h
  · simp at h
end Go.AM
namespace Go.AM
open Go Go.Proofs
noncomputable def r64 (call : CallF) (fuel base : Nat) (x0 : Value) (m : M) : Res2 :=
  (k2 (xbox m x0) fun v1_1 m => (k2 (xalloc E.P m 79) fun v2_2 m => (k1 (mfieldAddr E.P 79 v1_1 0) fun v4_3 => (k1 (xload E.P m 23 v4_3) fun v5_4 => (k2 (xalloc E.P m 23) fun v3_5 m => (ks (xstore E.P base m 23 v3_5 v5_4) fun m => (k1 (mfieldAddr E.P 23 v3_5 2) fun v6_6 => (k1 (xload E.P m 3 v6_6) fun v7_7 => (k1 (mfieldAddr E.P 23 v3_5 0) fun v8_8 => (k1 (xload E.P m 3 v8_8) fun v9_9 => (k1 (mfieldAddr E.P 23 v3_5 1) fun v10_10 => (k1 (xload E.P m 3 v10_10) fun v11_11 => (k1 (mbuild E.P 23 [(0, v7_7), (1, v9_9), (2, v11_11)]) fun v12_12 => (kc (call base 85 [v12_12, (.func (.func 88) #[] #[v1_1])] m) (fun v14_13 m => (ks (xstore E.P base m 79 v2_2 v14_13) fun m => (k0 (mload E.P m 79 v2_2) fun r_14 => (fVal r_14 fun v => some (.ret v, m))))) (fun v m => some (.pan v, m))))))))))))))))
def keep64 : Keep := { region := fun i => ([[1, 2], [1, 2, 3], [2]] : List (List Nat))[i]?, exit := fun i => ([] : List (List Nat))[i]?, ret := some [2] }
noncomputable def lp64 (call : CallF) (fuel base : Nat) : Lp := lpsel []
noncomputable def c64 : Code := Try.f64.body.getD .skip
theorem r64_eq (call : CallF) (fuel base : Nat) (x0 : Value) (m : M) : kbody E call keep64 (lp64 call fuel base) base Try.f64 [x0] m = r64 call fuel base x0 m := by
  kernel_rfl
noncomputable def rf64 : RF := fun call fuel base args m => match args with
  | [x0] => r64 call fuel base x0 m
  | _ => none
theorem r64_lk (call : CallF) (fuel base : Nat) : LoopsOk E call (lp64 call fuel base) fuel base 0 c64 = (And True (And True (And True True))) := by kernel_rfl
theorem r64_fn : E.P.funcs[64]? = some Try.f64 := by kernel_rfl
theorem r64_body : Try.f64.body = some c64 := by kernel_rfl
theorem rf64_ok : RFok E 64 rf64 := by
  show RFok' E 64 rf64
  refine ⟨Try.f64, r64_fn, fun call fuel base args m r _ h => ?_⟩
  unfold rf64 at h
  split at h
  · rw [← r64_eq] at h
    exact kbody_sound (c := c64) r64_body (Eq.mpr (r64_lk call fuel base) (And.intro trivial (And.intro trivial (And.intro trivial trivial)))) h
  · simp at h
end Go.AM
namespace Go.AM
open Go Go.Proofs
noncomputable def r74 (call : CallF) (fuel base : Nat) (x0 : Value) (x1 : Value) (x2 : Value) (x3 : Value) (m : M) : Res2 :=
  (k2 (xbox m x0) fun v4_1 m => (k1 (mfieldAddr E.P 23 v4_1 2) fun v10_2 => (k1 (xload E.P m 3 v10_2) fun v11_3 => (k1 (mbin E .gtr 3 x3 (.int .i64 0)) fun v13_4 => (kb v13_4 (k1 (mindexAddr E.P 33 x1 x2) fun v17_5 => (k1 (xload E.P m 27 v17_5) fun v18_6 => (k1 (mbin E .sub 3 x3 (.int .i64 1)) fun v20_7 => (k1 (mindexAddr E.P 27 v18_6 v20_7) fun v21_8 => (k1 (xload E.P m 3 v21_8) fun v22_9 => (k2 (vcall E.P base m .min [3, 3] [v11_3, v22_9]) fun v23_10 m => (k1 (mbin E .gtr 3 x2 (.int .i64 0)) fun v25_11 => (kb v25_11 (k1 (mbin E .sub 3 x2 (.int .i64 1)) fun v29_12 => (k1 (mindexAddr E.P 33 x1 v29_12) fun v30_13 => (k1 (xload E.P m 27 v30_13) fun v31_14 => (k1 (mindexAddr E.P 27 v31_14 x3) fun v33_15 => (k1 (xload E.P m 3 v33_15) fun v34_16 => (k2 (vcall E.P base m .min [3, 3] [v23_10, v34_16]) fun v35_17 m => (fVal v35_17 fun v => some (.ret v, m)))))))) (fVal v23_10 fun v => some (.ret v, m)))))))))) (k1 (mbin E .gtr 3 x2 (.int .i64 0)) fun v25_18 => (kb v25_18 (k1 (mbin E .sub 3 x2 (.int .i64 1)) fun v29_19 => (k1 (mindexAddr E.P 33 x1 v29_19) fun v30_20 => (k1 (xload E.P m 27 v30_20) fun v31_21 => (k1 (mindexAddr E.P 27 v31_21 x3) fun v33_22 => (k1 (xload E.P m 3 v33_22) fun v34_23 => (k2 (vcall E.P base m .min [3, 3] [v11_3, v34_23]) fun v35_24 m => (fVal v35_24 fun v => some (.ret v, m)))))))) (fVal v11_3 fun v => some (.ret v, m)))))))))
def keep74 : Keep := { region := fun i => ([[1, 2, 3, 4], [1, 2, 3, 9], [1, 2, 3, 9, 13], [1, 2, 3, 9], [1, 2, 3, 9, 25], [9], [8]] : List (List Nat))[i]?, exit := fun i => ([] : List (List Nat))[i]?, ret := some [8] }
noncomputable def lp74 (call : CallF) (fuel base : Nat) : Lp := lpsel []
noncomputable def c74 : Code := Try.f74.body.getD .skip
theorem r74_eq (call : CallF) (fuel base : Nat) (x0 : Value) (x1 : Value) (x2 : Value) (x3 : Value) (m : M) : kbody E call keep74 (lp74 call fuel base) base Try.f74 [x0, x1, x2, x3] m = r74 call fuel base x0 x1 x2 x3 m := by
  kernel_rfl
noncomputable def rf74 : RF := fun call fuel base args m => match args with
  | [x0, x1, x2, x3] => r74 call fuel base x0 x1 x2 x3 m
  | _ => none
theorem r74_lk (call : CallF) (fuel base : Nat) : LoopsOk E call (lp74 call fuel base) fuel base 0 c74 = (And True (And True (And (And True (And True True)) (And (And True (And True True)) (And True True))))) := by kernel_rfl
theorem r74_fn : E.P.funcs[74]? = some Try.f74 := by kernel_rfl
theorem r74_body : Try.f74.body = some c74 := by kernel_rfl
theorem rf74_ok : RFok E 74 rf74 := by
  show RFok' E 74 rf74
  refine ⟨Try.f74, r74_fn, fun call fuel base args m r _ h => ?_⟩
  unfold rf74 at h
  split at h
  · rw [← r74_eq] at h
    exact kbody_sound (c := c74) r74_body (Eq.mpr (r74_lk call fuel base) (And.intro trivial (And.intro trivial (And.intro (And.intro trivial (And.intro trivial trivial)) (And.intro (And.intro trivial (And.intro trivial trivial)) (And.intro trivial trivial)))))) h
  · simp at h
end Go.AM
namespace Go.AM
open Go Go.Proofs
noncomputable def r75 (call : CallF) (fuel base : Nat) (x0 : Value) (m : M) : Res2 :=
  (k1 (mbin E .leq 3 (.int .i64 1) x0) fun v4_1 => (kb v4_1 (k1 (mbin E .leq 3 x0 (.int .i64 4)) fun v7_2 => (fVal v7_2 fun v => some (.ret v, m))) (fVal (.bool false) fun v => some (.ret v, m))))
def keep75 : Keep := { region := fun i => ([[0], [2]] : List (List Nat))[i]?, exit := fun i => ([] : List (List Nat))[i]?, ret := some [2] }
noncomputable def lp75 (call : CallF) (fuel base : Nat) : Lp := lpsel []
noncomputable def c75 : Code := Try.f75.body.getD .skip
theorem r75_eq (call : CallF) (fuel base : Nat) (x0 : Value) (m : M) : kbody E call keep75 (lp75 call fuel base) base Try.f75 [x0] m = r75 call fuel base x0 m := by
  kernel_rfl
noncomputable def rf75 : RF := fun call fuel base args m => match args with
  | [x0] => r75 call fuel base x0 m
  | _ => none
theorem r75_lk (call : CallF) (fuel base : Nat) : LoopsOk E call (lp75 call fuel base) fuel base 0 c75 = (And True (And True True)) := by kernel_rfl
theorem r75_fn : E.P.funcs[75]? = some Try.f75 := by kernel_rfl
theorem r75_body : Try.f75.body = some c75 := by kernel_rfl
theorem rf75_ok : RFok E 75 rf75 := by
  show RFok' E 75 rf75
  refine ⟨Try.f75, r75_fn, fun call fuel base args m r _ h => ?_⟩
  unfold rf75 at h
  split at h
  · rw [← r75_eq] at h
    exact kbody_sound (c := c75) r75_body (Eq.mpr (r75_lk call fuel base) (And.intro trivial (And.intro trivial trivial))) h
  · simp at h
end Go.AM
namespace Go.AM
open Go Go.Proofs
noncomputable def r76_L0 (call : CallF) (fuel base : Nat) (kx0 : Value → M → Res2) (n : Nat) : Value → Value → Value → Value → M → Res2 :=
  Nat.rec (motive := fun _ => Value → Value → Value → Value → M → Res2) (fun _ _ _ _ _ => none)
    (fun _ ih x0 x5 x14 x15 m =>
      (k1 (mbin E .lss 3 x15 x14) fun v16_3 => (kb v16_3 (k1 (mbin E .sub 3 x0 x15) fun v21_4 => (k1 (mbin E .mul 3 x5 v21_4) fun v22_5 => (k1 (mbin E .add 3 x15 (.int .i64 1)) fun v24_6 => (k1 (mbin E .quo 3 v22_5 v24_6) fun v25_7 => (k1 (mbin E .add 3 x15 (.int .i64 1)) fun v26_8 => (ih x0 v25_7 x14 v26_8 m)))))) (kx0 x5 m)))) n
noncomputable def r76 (call : CallF) (fuel base : Nat) (x0 : Value) (x1 : Value) (m : M) : Res2 :=
  (k1 (mbin E .lss 3 x1 (.int .i64 0)) fun v8_1 => (kb v8_1 (fVal (.int .i64 0) fun v => some (.ret v, m)) (k1 (mbin E .gtr 3 x1 x0) fun v12_2 => (kb v12_2 (fVal (.int .i64 0) fun v => some (.ret v, m)) (r76_L0 call fuel base (fun y5_9 m => (fVal y5_9 fun v => some (.ret v, m))) fuel x0 (.int .i64 1) x1 (.int .i64 0) m)))))
def keep76 : Keep := { region := fun i => ([[0, 1], [0, 1, 13], [4], [0, 1, 5], [0, 5, 14, 15], [0, 5, 14, 15, 16], [0, 5, 6, 14, 15], [0, 5, 14, 15], [0, 5, 14, 15], [4]] : List (List Nat))[i]?, exit := fun i => ([[5], [0, 5, 14, 15]] : List (List Nat))[i]?, ret := some [4] }
noncomputable def r76_L0_R (call : CallF) (fuel base n : Nat) (vs : List Value) (m : M) (K : KT) : Res2 := match vs with
  | [x0, x5, x14, x15] => r76_L0 call fuel base (fun y5 m => K (.exit 0) { n := 28, l := [(5, y5)] } m) n x0 x5 x14 x15 m
  | _ => none
noncomputable def lp76 (call : CallF) (fuel base : Nat) : Lp := lpsel [(0, fun T m K => kslots 28 [0, 5, 14, 15] T fun vs => r76_L0_R call fuel base fuel vs m K)]
noncomputable def c76 : Code := Try.f76.body.getD .skip
theorem r76_L0_lk (call : CallF) (fuel base : Nat) : LoopsOk E call (lp76 call fuel base) fuel base 0 (loopB (blockB (seqR (seqL (seqR (seqR (seqR c76))))))) = (And True (And (And True True) (And (And True True) True))) := by kernel_rfl
theorem r76_L0_ok (call : CallF) (fuel base : Nat) : LpOk E call (lp76 call fuel base) fuel base 0 (loopB (blockB (seqR (seqL (seqR (seqR (seqR c76))))))) := by
  refine loop_ok (kp := keep76) (hb := Eq.mpr (r76_L0_lk call fuel base) (And.intro trivial (And.intro (And.intro trivial trivial) (And.intro (And.intro trivial trivial) trivial)))) 28 [0, 5, 14, 15] (fun n vs m K => r76_L0_R call fuel base n vs m K) ?_ ?_ (fun _ _ _ => rfl)
  · intro vs m K
    unfold r76_L0_R
    split <;> rfl
  · intro n vs m K hl
    match vs, hl with
    | [x0, x5, x14, x15], _ => show _ = _; kernel_rfl
theorem r76_eq (call : CallF) (fuel base : Nat) (x0 : Value) (x1 : Value) (m : M) : kbody E call keep76 (lp76 call fuel base) base Try.f76 [x0, x1] m = r76 call fuel base x0 x1 m := by
  kernel_rfl
noncomputable def rf76 : RF := fun call fuel base args m => match args with
  | [x0, x1] => r76 call fuel base x0 x1 m
  | _ => none
theorem r76_lk (call : CallF) (fuel base : Nat) : LoopsOk E call (lp76 call fuel base) fuel base 0 c76 = (And True (And (And True (And (And True True) True)) (And True (And (And True (LpOk E call (lp76 call fuel base) fuel base 0 (loopB (blockB (seqR (seqL (seqR (seqR (seqR c76))))))))) (And True True))))) := by kernel_rfl
theorem r76_fn : E.P.funcs[76]? = some Try.f76 := by kernel_rfl
theorem r76_body : Try.f76.body = some c76 := by kernel_rfl
theorem rf76_ok : RFok E 76 rf76 := by
  show RFok' E 76 rf76
  refine ⟨Try.f76, r76_fn, fun call fuel base args m r _ h => ?_⟩
  unfold rf76 at h
  split at h
  · rw [← r76_eq] at h
    exact kbody_sound (c := c76) r76_body (Eq.mpr (r76_lk call fuel base) (And.intro trivial (And.intro (And.intro trivial (And.intro (And.intro trivial trivial) trivial)) (And.intro trivial (And.intro (And.intro trivial (r76_L0_ok call fuel base)) (And.intro trivial trivial)))))) h
  · simp at h
end Go.AM
