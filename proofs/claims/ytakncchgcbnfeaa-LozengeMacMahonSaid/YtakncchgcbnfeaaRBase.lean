import Derived.KernelRfl
import Derived.Laws.BytesArg
import Derived.Laws.StructEq
import Derived.RangeFuncLeaves
import Derived.RangeFuncRecord
import Derived.Test.YtakncchgcbnfeaaProg
import Derived.Test.YtakncchgcbnfeaaRows
import Derived.WalkKit
import Derived.Test.YtakncchgcbnfeaaAmB
import Derived.Test.YtakncchgcbnfeaaAmG
import Derived.Test.YtakncchgcbnfeaaAmModel
import Derived.Test.YtakncchgcbnfeaaAmRel
import Derived.Test.YtakncchgcbnfeaaAmOps6
import Derived.Test.YtakncchgcbnfeaaAmCode
import Derived.Test.YtakncchgcbnfeaaAmDraw5
import Derived.Test.YtakncchgcbnfeaaAmEq
set_option linter.unusedVariables false
set_option linter.unusedSimpArgs false
set_option linter.unusedSectionVars false
namespace Go.AM
open Go Go.Proofs
noncomputable def E : Env where
  P := Try.prog
  pure := fun f => [12,13,14,15,18,19,20,22,23,24,25,26,36,37,39,40,41,43,45,46,47,48,49,50,51,52,55,56,57,58,59,62,63,64,67,73,74,75,76,79,80,82,85,86,87,88,89,90,91,93,94,95,96,103,104,108,109,110,111,112,113,115,124,125,126,127,128,130].contains f
  eqt := fun t => if t == 65 then [0, 2] else if t == 69 then [0, 2, 4] else if t == 67 then [0, 2, 4] else if t == 76 then [0, 2, 4, 6] else if t == 79 then [0, 2, 4, 6, 8, 10, 12, 14, 16, 18, 20, 22, 24, 26, 28, 30, 32, 34, 36] else []
  live := fun _ _ => none
def fieldSum (P : Program) (t : TypeId) : List (Nat × Nat × Bool) := (P.fieldsOf t).toList.map fun f => (f.type, f.offset, f.name == "_")
theorem flat_of {P : Program} {t : TypeId} {l : List (Nat × Nat × Bool)} {k : IntKind} (h1 : P.underlying t = some (.struct (P.fieldsOf t))) (h2 : P.stoodInHeld t = false) (h3 : P.eqGuardType P.depth t = false)
    (h3' : P.underlying 3 = some (.int k)) (h4' : P.underlying 4 = some .bool) (h4 : fieldSum P t = l) (h5 : ∀ q ∈ l, (q.1 = 3 ∨ q.1 = 4) ∧ q.2.2 = false) : flatFields P t (l.map fun q => 2 * q.2.1 + (if q.1 = 4 then 1 else 0)) := by
  have b3 : isBoolT P 3 = 0 := by unfold isBoolT; rw [h3']
  have b4 : isBoolT P 4 = 1 := by unfold isBoolT; rw [h4']
  have hq : ∀ f ∈ (P.fieldsOf t).toList, ((f.type = 3 ∨ f.type = 4) ∧ (f.name == "_") = false) := fun f hf =>
    h5 (f.type, f.offset, f.name == "_") (by rw [← h4]; exact List.mem_map.2 ⟨f, hf, rfl⟩)
  refine ⟨⟨h1, h2, h3⟩, ?_, fun f hf => ?_⟩
  · rw [← h4]
    unfold fieldSum
    rw [List.map_map]
    refine List.map_congr_left fun f hf => ?_
    rcases (hq f hf).1 with e | e
    · simp [e, b3]
    · simp [e, b4]
  · obtain ⟨e1, e2⟩ := hq f hf
    simp only [beq_eq_false_iff_ne] at e2
    refine ⟨?_, e2⟩
    rcases e1 with e | e
    · exact .inl ⟨⟨k, by rw [e]; exact h3'⟩, by rw [e]; exact b3⟩
    · exact .inr ⟨by rw [e]; exact h4', by rw [e]; exact b4⟩
theorem u3 : Try.prog.underlying 3 = some (.int .i64) := by kernel_rfl
theorem u4 : Try.prog.underlying 4 = some .bool := by kernel_rfl
theorem fl65 : flatFields Try.prog 65 [0, 2] := flat_of (l := [(3,0,false),(3,1,false)]) (by kernel_rfl) (by kernel_rfl) (by kernel_rfl) u3 u4 (by kernel_rfl) (by simp)
theorem fl69 : flatFields Try.prog 69 [0, 2, 4] := flat_of (l := [(3,0,false),(3,1,false),(3,2,false)]) (by kernel_rfl) (by kernel_rfl) (by kernel_rfl) u3 u4 (by kernel_rfl) (by simp)
theorem ae67 (d : Nat) : AEq Try.prog (d + 2) 67 [0, 2, 4] := aeq_array (len := 3) (elem := 3) (n := 1) (is := [0]) (by kernel_rfl) (by kernel_rfl) (peq_int u3 d)
theorem ae76 (d : Nat) : AEq Try.prog (d + 2) 76 [0, 2, 4, 6] := aeq_array (len := 4) (elem := 3) (n := 1) (is := [0]) (by kernel_rfl) (by kernel_rfl) (peq_int u3 d)
theorem pe76 (d : Nat) : PEq Try.prog (d + 2) 76 [0, 2, 4, 6] := PEq.of_agg (n := 4) (by kernel_rfl) (by kernel_rfl) (by decide) (ae76 d)
theorem ae77 (d : Nat) : AEq Try.prog (d + 3) 77 [0, 2, 4, 6, 8, 10, 12, 14, 16, 18, 20, 22, 24, 26, 28, 30] := aeq_array (len := 4) (elem := 76) (n := 4) (is := [0, 2, 4, 6]) (by kernel_rfl) (by kernel_rfl) (pe76 d)
theorem pe77 (d : Nat) : PEq Try.prog (d + 3) 77 [0, 2, 4, 6, 8, 10, 12, 14, 16, 18, 20, 22, 24, 26, 28, 30] := PEq.of_agg (n := 16) (by kernel_rfl) (by kernel_rfl) (by decide) (ae77 d)
/-- A struct's fields, by their types, places and names. -/
theorem aeq_fields {P : Program} {t : TypeId} {d : Nat} {l : List (Nat × Nat × Bool)} (ht : P.underlying t = some (.struct (P.fieldsOf t))) (hp : P.stoodInHeld t = false) (h4 : fieldSum P t = l) (g : Nat → List Nat)
    (h : ∀ q ∈ l, PEq P d q.1 (g q.1) ∧ q.2.2 = false) : AEq P (d + 1) t (l.flatMap fun q => (g q.1).map (· + 2 * q.2.1)) := by
  have hz : (P.fieldsOf t).toList.zip ((P.fieldsOf t).toList.map fun f => g f.type) = (P.fieldsOf t).toList.map fun f => (f, g f.type) := by
    generalize (P.fieldsOf t).toList = fs
    induction fs with
    | nil => rfl
    | cons f fs ih => simp [ih]
  have := aeq_struct (d := d) ht hp (iss := (P.fieldsOf t).toList.map fun f => g f.type) (by simp) (by
    rw [hz]
    intro p hp
    obtain ⟨f, hf, rfl⟩ := List.mem_map.1 hp
    have := h (f.type, f.offset, f.name == "_") (by rw [← h4]; exact List.mem_map.2 ⟨f, hf, rfl⟩)
    refine ⟨this.1, ?_⟩
    have h2 := this.2
    simpa using h2)
  rw [hz, List.flatMap_map] at this
  rw [← h4]
  unfold fieldSum
  rw [List.flatMap_map]
  exact this
theorem ae23 (d : Nat) : AEq Try.prog (d + 2) 23 [0, 2, 4] := aeq_fields (l := [(3,0,false),(3,1,false),(3,2,false)]) (by kernel_rfl) (by kernel_rfl) (by kernel_rfl) (fun _ => [0]) (by
  intro q hq
  simp at hq
  rcases hq with rfl | rfl | rfl <;> exact ⟨peq_int u3 d, rfl⟩)
theorem pe23 (d : Nat) : PEq Try.prog (d + 2) 23 [0, 2, 4] := PEq.of_agg (n := 3) (by kernel_rfl) (by kernel_rfl) (by decide) (ae23 d)
theorem ae79 (d : Nat) : AEq Try.prog (d + 4) 79 [0, 2, 4, 6, 8, 10, 12, 14, 16, 18, 20, 22, 24, 26, 28, 30, 32, 34, 36] :=
  aeq_fields (l := [(23,0,false),(77,3,false)]) (by kernel_rfl) (by kernel_rfl) (by kernel_rfl) (fun t => if t = 23 then [0, 2, 4] else [0, 2, 4, 6, 8, 10, 12, 14, 16, 18, 20, 22, 24, 26, 28, 30]) (by
  intro q hq
  simp at hq
  rcases hq with rfl | rfl
  · exact ⟨pe23 (d + 1), rfl⟩
  · exact ⟨pe77 d, rfl⟩)
theorem nogAll : (Try.prog.funcs.toList.all fun fn => !(fn.body.isSome && fn.name == "runtime.NumGoroutine")) = true := by kernel_rfl
theorem keysNodup : (siteTab.map (·.key)).Nodup := by
  have h : siteTab.map (·.key) = [8205, 968610, 549275, 856855] := by kernel_rfl
  rw [h]; decide
theorem sitesAll : (Try.prog.funcs.toList.zipIdx.all fun p => siteFns.contains p.2 || ((p.1.body.map fun c => (sitesOf c).isEmpty).getD true)) = true := by kernel_rfl
theorem site_of {f : Nat} (hf : f ∈ siteFns) {s : Site} (hs : s ∈ sitesOf (fcode f)) : gsite s.key = some s :=
  findSite_of keysNodup (List.mem_flatMap.2 ⟨f, hf, hs⟩)
theorem E_good : E.Good where
  eqt := by
    intro t xs ys r w x y hne hc
    have ht : t = 65 ∨ t = 69 ∨ t = 67 ∨ t = 76 ∨ t = 79 := by
      unfold E at hne
      simp only [beq_iff_eq] at hne
      by_cases h1 : t = 65
      · exact .inl h1
      by_cases h2 : t = 69
      · exact .inr (.inl h2)
      by_cases h3 : t = 67
      · exact .inr (.inr (.inl h3))
      by_cases h4 : t = 76
      · exact .inr (.inr (.inr (.inl h4)))
      by_cases h5 : t = 79
      · exact .inr (.inr (.inr (.inr h5)))
      simp [h1, h2, h3, h4, h5] at hne
    rcases ht with rfl | rfl | rfl | rfl | rfl
    · exact eqt_flat fl65 w x y hc
    · exact eqt_flat fl69 w x y hc
    · exact eqt_deep (by kernel_rfl) (ae67 9998) w x y hc
    · exact eqt_deep (by kernel_rfl) (ae76 9998) w x y hc
    · exact eqt_deep (by kernel_rfl) (ae79 9996) w x y hc
  nog := by
    intro f fn hf hb
    have h := List.all_eq_true.1 nogAll fn (Array.mem_toList_iff.2 (Array.mem_of_getElem? hf))
    simpa [hb] using h
  sites := by
    intro f fn c hf hc s hs
    have h := List.all_eq_true.1 sitesAll (fn, f) (by rw [List.mem_zipIdx_iff_getElem?]; have hf' : Try.prog.funcs[f]? = some fn := hf; simpa using hf')
    simp only [Bool.or_eq_true] at h
    rcases h with h | h
    · refine site_of (f := f) (by simpa using h) ?_
      have e : fcode f = c := by
        show (((E.P.funcs[f]?).bind (·.body)).getD .skip) = c
        rw [hf]
        simp [hc]
      rw [e]; exact hs
    · rw [hc] at h
      simp only [Option.map_some, Option.getD_some, List.isEmpty_iff] at h
      rw [h] at hs
      simp at hs
  tab := by
    intro k s hs
    obtain ⟨hm, _⟩ := findSite_mem hs
    obtain ⟨f, hf, hm⟩ := List.mem_flatMap.1 hm
    have := sitesOf_sub hm
    exact ⟨fun t ht => site_of hf (this.1 t ht), fun t ht => site_of hf (this.2 t ht)⟩
theorem E_mix : E.P.follows .mixedOrders = true := by kernel_rfl
end Go.AM
namespace Go.AM
open Go Go.Proofs
noncomputable def r7_L4 (call : CallF) (fuel base : Nat) (kp : Value → M → Res2) (kx4 : Value → Value → Value → Value → Value → M → Res2) (n : Nat) : Value → Value → Value → Value → Value → Value → M → Res2 :=
  Nat.rec (motive := fun _ => Value → Value → Value → Value → Value → Value → M → Res2) (fun _ _ _ _ _ _ _ => none)
    (fun _ ih x7 x8 x9 x10 x11 x12 m =>
      (k1 (mfieldAddr E.P 23 x7 2) fun v52_18 => (k1 (xload E.P m 3 v52_18) fun v53_19 => (k1 (mbin E .leq 3 x12 v53_19) fun v54_20 => (kb v54_20 (k1 (mbin E .add 3 x10 x11) fun v60_21 => (k1 (mbin E .add 3 v60_21 x12) fun v62_22 => (k1 (mbin E .sub 3 v62_22 (.int .i64 1)) fun v63_23 => (k1 (mbin E .mul 3 x8 v63_23) fun v64_24 => (k1 (mbin E .add 3 x10 x11) fun v68_25 => (k1 (mbin E .add 3 v68_25 x12) fun v70_26 => (k1 (mbin E .sub 3 v70_26 (.int .i64 2)) fun v71_27 => (k1 (mbin E .mul 3 x9 v71_27) fun v72_28 => (kc (call base 41 [v64_24, v72_28] m) (fun v75_29 m => (k1 (mbin E .quo 3 v64_24 v75_29) fun v78_30 => (k1 (mbin E .quo 3 v72_28 v75_29) fun v81_31 => (k1 (mbin E .add 3 x12 (.int .i64 1)) fun v56_32 => (ih x7 v78_30 v81_31 x10 x11 v56_32 m))))) (fun v m => kp v m)))))))))) (kx4 x7 x8 x9 x10 x11 m)))))) n
noncomputable def r7_L2 (call : CallF) (fuel base : Nat) (kp : Value → M → Res2) (kx2 : Value → Value → Value → Value → M → Res2) (n : Nat) : Value → Value → Value → Value → Value → M → Res2 :=
  Nat.rec (motive := fun _ => Value → Value → Value → Value → Value → M → Res2) (fun _ _ _ _ _ _ => none)
    (fun _ ih x7 x8 x9 x10 x11 m =>
      (k1 (mfieldAddr E.P 23 x7 1) fun v46_15 => (k1 (xload E.P m 3 v46_15) fun v47_16 => (k1 (mbin E .leq 3 x11 v47_16) fun v48_17 => (kb v48_17 (r7_L4 call fuel base (fun v m => kp v m) (fun y7_33 y8_34 y9_35 y10_36 y11_37 m => (k1 (mbin E .add 3 y11_37 (.int .i64 1)) fun v50_38 => (ih y7_33 y8_34 y9_35 y10_36 v50_38 m))) fuel x7 x8 x9 x10 x11 (.int .i64 1) m) (kx2 x7 x8 x9 x10 m)))))) n
noncomputable def r7_L0 (call : CallF) (fuel base : Nat) (kp : Value → M → Res2) (kx0 : Value → Value → Value → M → Res2) (n : Nat) : Value → Value → Value → Value → M → Res2 :=
  Nat.rec (motive := fun _ => Value → Value → Value → Value → M → Res2) (fun _ _ _ _ _ => none)
    (fun _ ih x7 x8 x9 x10 m =>
      (k1 (mfieldAddr E.P 23 x7 0) fun v40_12 => (k1 (xload E.P m 3 v40_12) fun v41_13 => (k1 (mbin E .leq 3 x10 v41_13) fun v42_14 => (kb v42_14 (r7_L2 call fuel base (fun v m => kp v m) (fun y7_39 y8_40 y9_41 y10_42 m => (k1 (mbin E .add 3 y10_42 (.int .i64 1)) fun v44_43 => (ih y7_39 y8_40 y9_41 v44_43 m))) fuel x7 x8 x9 x10 (.int .i64 1) m) (kx0 x7 x8 x9 m)))))) n
noncomputable def r7_L6 (call : CallF) (fuel base : Nat) (kr : Value → M → Res2) (kx6 : Value → Value → Value → Value → M → Res2) (n : Nat) : Value → Value → Value → Value → Value → M → Res2 :=
  Nat.rec (motive := fun _ => Value → Value → Value → Value → Value → M → Res2) (fun _ _ _ _ _ _ => none)
    (fun _ ih x7 x8 x18 x24 x25 m =>
      (k2 (vcall E.P base m .len [27] [x18]) fun v163_89 m => (k1 (mbin E .lss 3 x25 v163_89) fun v164_90 => (kb v164_90 (k1 (mindexAddr E.P 27 x18 x25) fun v170_91 => (k1 (xload E.P m 3 v170_91) fun v171_92 => (k1 (mbin E .add 3 x24 v171_92) fun v172_93 => (k1 (mindexAddr E.P 27 x18 x25) fun v175_94 => (k1 (xload E.P m 3 v175_94) fun v176_95 => (k2 (vcall E.P base m .len [27] [x18]) fun v179_96 m => (k1 (mbin E .sub 3 v179_96 (.int .i64 1)) fun v180_97 => (k1 (mbin E .sub 3 v180_97 x25) fun v182_98 => (k1 (mindexAddr E.P 27 x18 v182_98) fun v183_99 => (k1 (xload E.P m 3 v183_99) fun v184_100 => (k1 (mbin E .neq 3 v176_95 v184_100) fun v185_101 => (kb v185_101 (kr (.bool false) m) (k1 (mindexAddr E.P 27 x18 x25) fun v189_102 => (k1 (xload E.P m 3 v189_102) fun v190_103 => (k1 (mbin E .lss 3 v190_103 (.int .i64 1)) fun v191_104 => (kb v191_104 (kr (.bool false) m) (k1 (mbin E .add 3 x25 (.int .i64 1)) fun v166_105 => (ih x7 x8 x18 v172_93 v166_105 m)))))))))))))))))) (kx6 x7 x8 x18 x24 m))))) n
noncomputable def r7 (call : CallF) (fuel base : Nat) (x0 : Value) (x1 : Value) (x2 : Value) (m : M) : Res2 :=
  (k1 (mbin E .rem 5 x0 (.int .u8 4)) fun v27_1 => (k1 (mconvert E.P 5 3 v27_1) fun v28_2 => (k1 (mbin E .add 3 (.int .i64 1) v28_2) fun v29_3 => (k1 (mbin E .rem 5 x1 (.int .u8 4)) fun v31_4 => (k1 (mconvert E.P 5 3 v31_4) fun v32_5 => (k1 (mbin E .add 3 (.int .i64 1) v32_5) fun v33_6 => (k1 (mbin E .rem 5 x2 (.int .u8 4)) fun v35_7 => (k1 (mconvert E.P 5 3 v35_7) fun v36_8 => (k1 (mbin E .add 3 (.int .i64 1) v36_8) fun v37_9 => (k1 (mbuild E.P 23 [(0, v29_3), (1, v33_6), (2, v37_9)]) fun v38_10 => (k2 (xalloc E.P m 23) fun v7_11 m => (ks (xstore E.P base m 23 v7_11 v38_10) fun m => (r7_L0 call fuel base (fun v m => some (.pan v, m)) (fun y7_44 y8_45 y9_46 m => (k1 (xload E.P m 23 y7_44) fun v83_47 => (kc (call base 12 [v83_47] m) (fun v84_48 m => (k1 (mextract 0 v84_48) fun v85_49 => (k1 (mextract 1 v84_48) fun v86_50 => (k1 (xload E.P m 23 y7_44) fun v88_51 => (kc (call base 14 [v88_51] m) (fun v89_52 m => (k1 (mextract 0 v89_52) fun v90_53 => (k1 (mextract 1 v89_52) fun v91_54 => (k1 (xload E.P m 23 y7_44) fun v93_55 => (kc (call base 16 [v93_55] m) (fun v94_56 m => (k1 (mextract 0 v94_56) fun v95_57 => (k1 (mextract 1 v94_56) fun v96_58 => (k1 (mfieldAddr E.P 23 y7_44 2) fun v98_59 => (k1 (xload E.P m 3 v98_59) fun v99_60 => (k1 (mfieldAddr E.P 23 y7_44 0) fun v100_61 => (k1 (xload E.P m 3 v100_61) fun v101_62 => (k1 (mfieldAddr E.P 23 y7_44 1) fun v102_63 => (k1 (xload E.P m 3 v102_63) fun v103_64 => (k1 (mbuild E.P 23 [(0, v99_60), (1, v101_62), (2, v103_64)]) fun v104_65 => (kc (call base 12 [v104_65] m) (fun v105_66 m => (k1 (mextract 0 v105_66) fun v106_67 => (k1 (mextract 1 v105_66) fun v107_68 => (k1 (mfieldAddr E.P 23 y7_44 1) fun v109_69 => (k1 (xload E.P m 3 v109_69) fun v110_70 => (k1 (mfieldAddr E.P 23 y7_44 0) fun v111_71 => (k1 (xload E.P m 3 v111_71) fun v112_72 => (k1 (mfieldAddr E.P 23 y7_44 2) fun v113_73 => (k1 (xload E.P m 3 v113_73) fun v114_74 => (k1 (mbuild E.P 23 [(0, v110_70), (1, v112_72), (2, v114_74)]) fun v115_75 => (kc (call base 14 [v115_75] m) (fun v116_76 m => (k1 (mextract 0 v116_76) fun v117_77 => (k1 (mextract 1 v116_76) fun v118_78 => (k1 (mbin E .neq 24 v86_50 (.int .i64 0)) fun v120_79 => (kb v120_79 (fVal (.bool false) fun v => some (.ret v, m)) (k1 (mbin E .neq 24 v91_54 (.int .i64 0)) fun v123_80 => (kb v123_80 (fVal (.bool false) fun v => some (.ret v, m)) (k1 (mbin E .neq 24 v96_58 (.int .i64 0)) fun v127_81 => (kb v127_81 (fVal (.bool false) fun v => some (.ret v, m)) (k1 (mbin E .neq 24 v107_68 (.int .i64 0)) fun v131_82 => (kb v131_82 (fVal (.bool false) fun v => some (.ret v, m)) (k1 (mbin E .neq 24 v118_78 (.int .i64 0)) fun v135_83 => (kb v135_83 (fVal (.bool false) fun v => some (.ret v, m)) (k1 (mbin E .neq 3 y9_46 (.int .i64 1)) fun v139_84 => (kb v139_84 (fVal (.bool false) fun v => some (.ret v, m)) (k1 (mbin E .neq 3 v85_49 y8_45) fun v144_85 => (kb v144_85 (fVal (.bool false) fun v => some (.ret v, m)) (k1 (mbin E .neq 3 v90_53 y8_45) fun v149_86 => (kb v149_86 (fVal (.bool false) fun v => some (.ret v, m)) (k1 (mbin E .neq 3 v106_67 y8_45) fun v154_87 => (kb v154_87 (fVal (.bool false) fun v => some (.ret v, m)) (k1 (mbin E .neq 3 v117_77 y8_45) fun v159_88 => (kb v159_88 (fVal (.bool false) fun v => some (.ret v, m)) (r7_L6 call fuel base (fun y6_106 m => (fVal y6_106 fun v => some (.ret v, m))) (fun y7_107 y8_108 y18_109 y24_110 m => (k1 (mbin E .eql 3 y24_110 y8_108) fun v195_111 => (kb v195_111 (k2 (vcall E.P base m .len [27] [y18_109]) fun v198_112 m => (k1 (mfieldAddr E.P 23 y7_107 0) fun v199_113 => (k1 (xload E.P m 3 v199_113) fun v200_114 => (k1 (mfieldAddr E.P 23 y7_107 1) fun v201_115 => (k1 (xload E.P m 3 v201_115) fun v202_116 => (k1 (mbin E .mul 3 v200_114 v202_116) fun v203_117 => (k1 (mfieldAddr E.P 23 y7_107 2) fun v204_118 => (k1 (xload E.P m 3 v204_118) fun v205_119 => (k1 (mbin E .mul 3 v203_117 v205_119) fun v206_120 => (k1 (mbin E .add 3 v206_120 (.int .i64 1)) fun v207_121 => (k1 (mbin E .eql 3 v198_112 v207_121) fun v208_122 => (kb v208_122 (kc (call base 19 [] m) (fun v211_123 m => (fVal v211_123 fun v => some (.ret v, m))) (fun v m => some (.pan v, m))) (fVal (.bool false) fun v => some (.ret v, m)))))))))))))) (fVal (.bool false) fun v => some (.ret v, m))))) fuel y7_44 y8_45 v95_57 (.int .i64 0) (.int .i64 0) m)))))))))))))))))))))))) (fun v m => some (.pan v, m))))))))))))) (fun v m => some (.pan v, m))))))))))))) (fun v m => some (.pan v, m))))))) (fun v m => some (.pan v, m))))))) (fun v m => some (.pan v, m))))) fuel v7_11 (.int .i64 1) (.int .i64 1) (.int .i64 1) m)))))))))))))
def keep7 : Keep := { region := fun i => ([[0, 1, 2], [7], [7, 8, 9], [7, 8, 9, 10], [7, 8, 9, 10, 42], [7, 8, 9, 10], [7, 8, 9, 10, 11], [7, 8, 9, 10, 11, 48], [7, 8, 9, 10, 11], [7, 8, 9, 10, 11, 12], [7, 8, 9, 10, 11, 12, 54], [7, 8, 9, 10, 11, 12], [7, 8, 9, 10, 11, 12], [7, 8, 9, 10, 11, 12], [7, 8, 9, 10, 11, 12, 13], [7, 8, 9, 10, 11, 12, 13], [7, 8, 9, 10, 11, 12], [7, 8, 9, 14, 15], [7, 8, 9, 14, 15, 16, 17], [7, 8, 9, 14, 15, 16, 17, 18, 19], [7, 8, 9, 14, 15, 16, 17, 18, 19, 20, 21], [7, 8, 9, 14, 15, 16, 17, 18, 19, 20, 21, 22, 23], [7, 8, 18, 160], [6], [7, 8, 18, 24], [7, 8, 18, 24, 25], [7, 8, 18, 24, 25, 164], [7, 8, 18, 24, 25], [7, 8, 18, 24, 25], [7, 8, 18, 24, 25, 192], [6], [6]] : List (List Nat))[i]?, exit := fun i => ([[7, 8, 9], [7, 8, 9, 10], [7, 8, 9, 10], [7, 8, 9, 10, 11], [7, 8, 9, 10, 11], [7, 8, 9, 10, 11, 12], [7, 8, 18, 24], [7, 8, 18, 24, 25]] : List (List Nat))[i]?, ret := some [6] }
noncomputable def r7_L4_R (call : CallF) (fuel base n : Nat) (vs : List Value) (m : M) (K : KT) : Res2 := match vs with
  | [x7, x8, x9, x10, x11, x12] => r7_L4 call fuel base (fun v m => K (.pan v) { n := 213, l := [] } m) (fun y7 y8 y9 y10 y11 m => K (.exit 4) { n := 213, l := [(7, y7), (8, y8), (9, y9), (10, y10), (11, y11)] } m) n x7 x8 x9 x10 x11 x12 m
  | _ => none
noncomputable def r7_L2_R (call : CallF) (fuel base n : Nat) (vs : List Value) (m : M) (K : KT) : Res2 := match vs with
  | [x7, x8, x9, x10, x11] => r7_L2 call fuel base (fun v m => K (.pan v) { n := 213, l := [] } m) (fun y7 y8 y9 y10 m => K (.exit 2) { n := 213, l := [(7, y7), (8, y8), (9, y9), (10, y10)] } m) n x7 x8 x9 x10 x11 m
  | _ => none
noncomputable def r7_L0_R (call : CallF) (fuel base n : Nat) (vs : List Value) (m : M) (K : KT) : Res2 := match vs with
  | [x7, x8, x9, x10] => r7_L0 call fuel base (fun v m => K (.pan v) { n := 213, l := [] } m) (fun y7 y8 y9 m => K (.exit 0) { n := 213, l := [(7, y7), (8, y8), (9, y9)] } m) n x7 x8 x9 x10 m
  | _ => none
noncomputable def r7_L6_R (call : CallF) (fuel base n : Nat) (vs : List Value) (m : M) (K : KT) : Res2 := match vs with
  | [x7, x8, x18, x24, x25] => r7_L6 call fuel base (fun y6 m => K .ret { n := 213, l := [(6, y6)] } m) (fun y7 y8 y18 y24 m => K (.exit 6) { n := 213, l := [(7, y7), (8, y8), (18, y18), (24, y24)] } m) n x7 x8 x18 x24 x25 m
  | _ => none
noncomputable def lp7 (call : CallF) (fuel base : Nat) : Lp := lpsel [(4, fun T m K => kslots 213 [7, 8, 9, 10, 11, 12] T fun vs => r7_L4_R call fuel base fuel vs m K), (2, fun T m K => kslots 213 [7, 8, 9, 10, 11] T fun vs => r7_L2_R call fuel base fuel vs m K), (0, fun T m K => kslots 213 [7, 8, 9, 10] T fun vs => r7_L0_R call fuel base fuel vs m K), (6, fun T m K => kslots 213 [7, 8, 18, 24, 25] T fun vs => r7_L6_R call fuel base fuel vs m K)]
noncomputable def c7 : Code := Try.f7.body.getD .skip
theorem r7_L4_lk (call : CallF) (fuel base : Nat) : LoopsOk E call (lp7 call fuel base) fuel base 4 (loopB (blockB (seqR (blockB (seqL (seqR (loopB (blockB (seqR (blockB (seqL (seqR (loopB (blockB (seqR (seqL (seqR (seqR (seqR c7))))))))))))))))))) = (And (And True (And True True)) (And (And True (And True (And True (And True True)))) True)) := by kernel_rfl
theorem r7_L4_ok (call : CallF) (fuel base : Nat) : LpOk E call (lp7 call fuel base) fuel base 4 (loopB (blockB (seqR (blockB (seqL (seqR (loopB (blockB (seqR (blockB (seqL (seqR (loopB (blockB (seqR (seqL (seqR (seqR (seqR c7))))))))))))))))))) := by
  refine loop_ok (kp := keep7) (hb := Eq.mpr (r7_L4_lk call fuel base) (And.intro (And.intro trivial (And.intro trivial trivial)) (And.intro (And.intro trivial (And.intro trivial (And.intro trivial (And.intro trivial trivial)))) trivial))) 213 [7, 8, 9, 10, 11, 12] (fun n vs m K => r7_L4_R call fuel base n vs m K) ?_ ?_ (fun _ _ _ => rfl)
  · intro vs m K
    unfold r7_L4_R
    split <;> rfl
  · intro n vs m K hl
    match vs, hl with
    | [x7, x8, x9, x10, x11, x12], _ => show _ = _; kernel_rfl
theorem r7_L2_lk (call : CallF) (fuel base : Nat) : LoopsOk E call (lp7 call fuel base) fuel base 2 (loopB (blockB (seqR (blockB (seqL (seqR (loopB (blockB (seqR (seqL (seqR (seqR (seqR c7))))))))))))) = (And (And True (And True True)) (And (And True (LpOk E call (lp7 call fuel base) fuel base 4 (loopB (blockB (seqR (blockB (seqL (seqR (loopB (blockB (seqR (blockB (seqL (seqR (loopB (blockB (seqR (seqL (seqR (seqR (seqR c7))))))))))))))))))))) True)) := by kernel_rfl
theorem r7_L2_ok (call : CallF) (fuel base : Nat) : LpOk E call (lp7 call fuel base) fuel base 2 (loopB (blockB (seqR (blockB (seqL (seqR (loopB (blockB (seqR (seqL (seqR (seqR (seqR c7))))))))))))) := by
  refine loop_ok (kp := keep7) (hb := Eq.mpr (r7_L2_lk call fuel base) (And.intro (And.intro trivial (And.intro trivial trivial)) (And.intro (And.intro trivial (r7_L4_ok call fuel base)) trivial))) 213 [7, 8, 9, 10, 11] (fun n vs m K => r7_L2_R call fuel base n vs m K) ?_ ?_ (fun _ _ _ => rfl)
  · intro vs m K
    unfold r7_L2_R
    split <;> rfl
  · intro n vs m K hl
    match vs, hl with
    | [x7, x8, x9, x10, x11], _ => show _ = _; kernel_rfl
theorem r7_L0_lk (call : CallF) (fuel base : Nat) : LoopsOk E call (lp7 call fuel base) fuel base 0 (loopB (blockB (seqR (seqL (seqR (seqR (seqR c7))))))) = (And (And True (And True True)) (And (And True (LpOk E call (lp7 call fuel base) fuel base 2 (loopB (blockB (seqR (blockB (seqL (seqR (loopB (blockB (seqR (seqL (seqR (seqR (seqR c7))))))))))))))) True)) := by kernel_rfl
theorem r7_L0_ok (call : CallF) (fuel base : Nat) : LpOk E call (lp7 call fuel base) fuel base 0 (loopB (blockB (seqR (seqL (seqR (seqR (seqR c7))))))) := by
  refine loop_ok (kp := keep7) (hb := Eq.mpr (r7_L0_lk call fuel base) (And.intro (And.intro trivial (And.intro trivial trivial)) (And.intro (And.intro trivial (r7_L2_ok call fuel base)) trivial))) 213 [7, 8, 9, 10] (fun n vs m K => r7_L0_R call fuel base n vs m K) ?_ ?_ (fun _ _ _ => rfl)
  · intro vs m K
    unfold r7_L0_R
    split <;> rfl
  · intro n vs m K hl
    match vs, hl with
    | [x7, x8, x9, x10], _ => show _ = _; kernel_rfl
theorem r7_L6_lk (call : CallF) (fuel base : Nat) : LoopsOk E call (lp7 call fuel base) fuel base 6 (loopB (blockB (seqR (seqL (seqR (seqR (seqR (seqR (seqR (seqR (seqR (seqR (seqR (seqR (seqR c7))))))))))))))) = (And (And True (And True True)) (And (And True (And True (And (And True True) True))) True)) := by kernel_rfl
theorem r7_L6_ok (call : CallF) (fuel base : Nat) : LpOk E call (lp7 call fuel base) fuel base 6 (loopB (blockB (seqR (seqL (seqR (seqR (seqR (seqR (seqR (seqR (seqR (seqR (seqR (seqR (seqR c7))))))))))))))) := by
  refine loop_ok (kp := keep7) (hb := Eq.mpr (r7_L6_lk call fuel base) (And.intro (And.intro trivial (And.intro trivial trivial)) (And.intro (And.intro trivial (And.intro trivial (And.intro (And.intro trivial trivial) trivial))) trivial))) 213 [7, 8, 18, 24, 25] (fun n vs m K => r7_L6_R call fuel base n vs m K) ?_ ?_ (fun _ _ _ => rfl)
  · intro vs m K
    unfold r7_L6_R
    split <;> rfl
  · intro n vs m K hl
    match vs, hl with
    | [x7, x8, x18, x24, x25], _ => show _ = _; kernel_rfl
theorem r7_eq (call : CallF) (fuel base : Nat) (x0 : Value) (x1 : Value) (x2 : Value) (m : M) : kbody E call keep7 (lp7 call fuel base) base Try.f7 [x0, x1, x2] m = r7 call fuel base x0 x1 x2 m := by
  kernel_rfl
noncomputable def rf7 : RF := fun call fuel base args m => match args with
  | [x0, x1, x2] => r7 call fuel base x0 x1 x2 m
  | _ => none
theorem r7_lk (call : CallF) (fuel base : Nat) : LoopsOk E call (lp7 call fuel base) fuel base 0 c7 = (And True (And True (And True (And (And True (LpOk E call (lp7 call fuel base) fuel base 0 (loopB (blockB (seqR (seqL (seqR (seqR (seqR c7))))))))) (And True (And True (And True (And True (And True (And (And True (And (And True True) True)) (And True (And (And True (LpOk E call (lp7 call fuel base) fuel base 6 (loopB (blockB (seqR (seqL (seqR (seqR (seqR (seqR (seqR (seqR (seqR (seqR (seqR (seqR (seqR c7))))))))))))))))) (And True True))))))))))))) := by kernel_rfl
theorem r7_fn : E.P.funcs[7]? = some Try.f7 := by kernel_rfl
theorem r7_body : Try.f7.body = some c7 := by kernel_rfl
theorem rf7_ok : RFok E 7 rf7 := by
  show RFok' E 7 rf7
  refine ⟨Try.f7, r7_fn, fun call fuel base args m r _ h => ?_⟩
  unfold rf7 at h
  split at h
  · rw [← r7_eq] at h
    exact kbody_sound (c := c7) r7_body (Eq.mpr (r7_lk call fuel base) (And.intro trivial (And.intro trivial (And.intro trivial (And.intro (And.intro trivial (r7_L0_ok call fuel base)) (And.intro trivial (And.intro trivial (And.intro trivial (And.intro trivial (And.intro trivial (And.intro (And.intro trivial (And.intro (And.intro trivial trivial) trivial)) (And.intro trivial (And.intro (And.intro trivial (r7_L6_ok call fuel base)) (And.intro trivial trivial)))))))))))))) h
  · simp at h
end Go.AM
namespace Go.AM
open Go Go.Proofs
noncomputable def r12 (call : CallF) (fuel base : Nat) (x0 : Value) (m : M) : Res2 :=
  (k2 (xbox m x0) fun v1_1 m => (k1 (xload E.P m 23 v1_1) fun v4_2 => (kc (call base 47 [v4_2] m) (fun v5_3 m => (k1 (mun .not v5_3) fun v6_4 => (kb v6_4 (some (.ret (.tuple #[(.int .i64 0), (.int .i64 2)]), m)) (k1 (xload E.P m 23 v1_1) fun v7_5 => (kc (call base 48 [v7_5] m) (fun v8_6 m => (some (.ret (.tuple #[v8_6, (.int .i64 0)]), m))) (fun v m => some (.pan v, m))))))) (fun v m => some (.pan v, m)))))
def keep12 : Keep := { region := fun i => ([[1], [1, 6], [2, 3], [2, 3]] : List (List Nat))[i]?, exit := fun i => ([] : List (List Nat))[i]?, ret := some [2, 3] }
noncomputable def lp12 (call : CallF) (fuel base : Nat) : Lp := lpsel []
noncomputable def c12 : Code := Try.f12.body.getD .skip
theorem r12_eq (call : CallF) (fuel base : Nat) (x0 : Value) (m : M) : kbody E call keep12 (lp12 call fuel base) base Try.f12 [x0] m = r12 call fuel base x0 m := by
  kernel_rfl
noncomputable def rf12 : RF := fun call fuel base args m => match args with
  | [x0] => r12 call fuel base x0 m
  | _ => none
theorem r12_lk (call : CallF) (fuel base : Nat) : LoopsOk E call (lp12 call fuel base) fuel base 0 c12 = (And True (And (And True (And (And True True) True)) (And True True))) := by kernel_rfl
theorem r12_fn : E.P.funcs[12]? = some Try.f12 := by kernel_rfl
theorem r12_body : Try.f12.body = some c12 := by kernel_rfl
theorem rf12_ok : RFok E 12 rf12 := by
  show RFok' E 12 rf12
  refine ⟨Try.f12, r12_fn, fun call fuel base args m r _ h => ?_⟩
  unfold rf12 at h
  split at h
  · rw [← r12_eq] at h
    exact kbody_sound (c := c12) r12_body (Eq.mpr (r12_lk call fuel base) (And.intro trivial (And.intro (And.intro trivial (And.intro (And.intro trivial trivial) trivial)) (And.intro trivial trivial)))) h
  · simp at h
end Go.AM
namespace Go.AM
open Go Go.Proofs
noncomputable def r14 (call : CallF) (fuel base : Nat) (x0 : Value) (m : M) : Res2 :=
  (k2 (xbox m x0) fun v1_1 m => (k1 (xload E.P m 23 v1_1) fun v4_2 => (kc (call base 47 [v4_2] m) (fun v5_3 m => (k1 (mun .not v5_3) fun v6_4 => (kb v6_4 (some (.ret (.tuple #[(.int .i64 0), (.int .i64 2)]), m)) (k1 (xload E.P m 23 v1_1) fun v7_5 => (kc (call base 49 [v7_5] m) (fun v8_6 m => (some (.ret (.tuple #[v8_6, (.int .i64 0)]), m))) (fun v m => some (.pan v, m))))))) (fun v m => some (.pan v, m)))))
def keep14 : Keep := { region := fun i => ([[1], [1, 6], [2, 3], [2, 3]] : List (List Nat))[i]?, exit := fun i => ([] : List (List Nat))[i]?, ret := some [2, 3] }
noncomputable def lp14 (call : CallF) (fuel base : Nat) : Lp := lpsel []
noncomputable def c14 : Code := Try.f14.body.getD .skip
theorem r14_eq (call : CallF) (fuel base : Nat) (x0 : Value) (m : M) : kbody E call keep14 (lp14 call fuel base) base Try.f14 [x0] m = r14 call fuel base x0 m := by
  kernel_rfl
noncomputable def rf14 : RF := fun call fuel base args m => match args with
  | [x0] => r14 call fuel base x0 m
  | _ => none
theorem r14_lk (call : CallF) (fuel base : Nat) : LoopsOk E call (lp14 call fuel base) fuel base 0 c14 = (And True (And (And True (And (And True True) True)) (And True True))) := by kernel_rfl
theorem r14_fn : E.P.funcs[14]? = some Try.f14 := by kernel_rfl
theorem r14_body : Try.f14.body = some c14 := by kernel_rfl
theorem rf14_ok : RFok E 14 rf14 := by
  show RFok' E 14 rf14
  refine ⟨Try.f14, r14_fn, fun call fuel base args m r _ h => ?_⟩
  unfold rf14 at h
  split at h
  · rw [← r14_eq] at h
    exact kbody_sound (c := c14) r14_body (Eq.mpr (r14_lk call fuel base) (And.intro trivial (And.intro (And.intro trivial (And.intro (And.intro trivial trivial) trivial)) (And.intro trivial trivial)))) h
  · simp at h
end Go.AM
namespace Go.AM
open Go Go.Proofs
noncomputable def r15_L2 (call : CallF) (fuel base : Nat) (kp : Value → M → Res2) (kx2 : Value → Value → Value → Value → M → Res2) (n : Nat) : Value → Value → Value → Value → Value → M → Res2 :=
  Nat.rec (motive := fun _ => Value → Value → Value → Value → Value → M → Res2) (fun _ _ _ _ _ _ => none)
    (fun _ ih x1 x4 x5 x6 x7 m =>
      (k1 (mfieldAddr E.P 23 x1 0) fun v18_8 => (k1 (xload E.P m 3 v18_8) fun v19_9 => (k1 (mbin E .lss 3 x7 v19_9) fun v20_10 => (kb v20_10 (k1 (mfieldAddr E.P 23 x1 1) fun v24_11 => (k1 (xload E.P m 3 v24_11) fun v25_12 => (k1 (mfieldAddr E.P 23 x1 2) fun v26_13 => (k1 (xload E.P m 3 v26_13) fun v27_14 => (k1 (mbin E .add 3 v25_12 v27_14) fun v28_15 => (k1 (mfieldAddr E.P 23 x1 1) fun v29_16 => (k1 (xload E.P m 3 v29_16) fun v30_17 => (k1 (mbin E .sub 3 v30_17 x5) fun v32_18 => (k1 (mbin E .add 3 v32_18 x7) fun v34_19 => (kc (call base 51 [v28_15, v34_19] m) (fun v35_20 m => (k2 (xbuildSlice E.P m 27 1 [(0, v35_20)]) fun v36_21 m => (k2 (vcall E.P base m .append [27, 27] [x6, v36_21]) fun v37_22 m => (k1 (mbin E .add 3 x7 (.int .i64 1)) fun v22_23 => (ih x1 x4 x5 v37_22 v22_23 m))))) (fun v m => kp v m))))))))))) (kx2 x1 x4 x5 x6 m)))))) n
noncomputable def r15_L0 (call : CallF) (fuel base : Nat) (kp : Value → M → Res2) (kx0 : Value → M → Res2) (n : Nat) : Value → Value → Value → M → Res2 :=
  Nat.rec (motive := fun _ => Value → Value → Value → M → Res2) (fun _ _ _ _ => none)
    (fun _ ih x1 x4 x5 m =>
      (k1 (mfieldAddr E.P 23 x1 0) fun v12_5 => (k1 (xload E.P m 3 v12_5) fun v13_6 => (k1 (mbin E .lss 3 x5 v13_6) fun v14_7 => (kb v14_7 (r15_L2 call fuel base (fun v m => kp v m) (fun y1_24 y4_25 y5_26 y6_27 m => (k2 (xbuildSlice E.P m 33 1 [(0, y6_27)]) fun v40_28 m => (k2 (vcall E.P base m .append [33, 33] [y4_25, v40_28]) fun v41_29 m => (k1 (mbin E .add 3 y5_26 (.int .i64 1)) fun v16_30 => (ih y1_24 v41_29 v16_30 m))))) fuel x1 x4 x5 (.slice none 0 0) (.int .i64 0) m) (kx0 x4 m)))))) n
noncomputable def r15 (call : CallF) (fuel base : Nat) (x0 : Value) (m : M) : Res2 :=
  (k2 (xbox m x0) fun v1_1 m => (k1 (xload E.P m 23 v1_1) fun v8_2 => (kc (call base 50 [v8_2] m) (fun v9_3 m => (k1 (mun .not v9_3) fun v10_4 => (kb v10_4 (some (.ret (.tuple #[(.int .i64 0), (.int .i64 2)]), m)) (r15_L0 call fuel base (fun v m => some (.pan v, m)) (fun y4_31 m => (kc (call base 52 [y4_31] m) (fun v43_32 m => (some (.ret (.tuple #[v43_32, (.int .i64 0)]), m))) (fun v m => some (.pan v, m)))) fuel v1_1 (.slice none 0 0) (.int .i64 0) m)))) (fun v m => some (.pan v, m)))))
def keep15 : Keep := { region := fun i => ([[1], [1, 10], [2, 3], [1, 4], [1, 4, 5], [1, 4, 5, 14], [1, 4, 5], [1, 4, 5, 6], [1, 4, 5, 6, 7], [1, 4, 5, 6, 7, 20], [1, 4, 5, 6, 7], [1, 4, 5, 6, 7], [1, 4, 5], [2, 3]] : List (List Nat))[i]?, exit := fun i => ([[4], [1, 4, 5], [1, 4, 5, 6], [1, 4, 5, 6, 7]] : List (List Nat))[i]?, ret := some [2, 3] }
noncomputable def r15_L2_R (call : CallF) (fuel base n : Nat) (vs : List Value) (m : M) (K : KT) : Res2 := match vs with
  | [x1, x4, x5, x6, x7] => r15_L2 call fuel base (fun v m => K (.pan v) { n := 44, l := [] } m) (fun y1 y4 y5 y6 m => K (.exit 2) { n := 44, l := [(1, y1), (4, y4), (5, y5), (6, y6)] } m) n x1 x4 x5 x6 x7 m
  | _ => none
noncomputable def r15_L0_R (call : CallF) (fuel base n : Nat) (vs : List Value) (m : M) (K : KT) : Res2 := match vs with
  | [x1, x4, x5] => r15_L0 call fuel base (fun v m => K (.pan v) { n := 44, l := [] } m) (fun y4 m => K (.exit 0) { n := 44, l := [(4, y4)] } m) n x1 x4 x5 m
  | _ => none
noncomputable def lp15 (call : CallF) (fuel base : Nat) : Lp := lpsel [(2, fun T m K => kslots 44 [1, 4, 5, 6, 7] T fun vs => r15_L2_R call fuel base fuel vs m K), (0, fun T m K => kslots 44 [1, 4, 5] T fun vs => r15_L0_R call fuel base fuel vs m K)]
noncomputable def c15 : Code := Try.f15.body.getD .skip
theorem r15_L2_lk (call : CallF) (fuel base : Nat) : LoopsOk E call (lp15 call fuel base) fuel base 2 (loopB (blockB (seqR (seqL (seqR (blockB (seqL (seqR (loopB (blockB (seqR (seqL (seqR (seqR (seqR c15))))))))))))))) = (And (And True (And True True)) (And True True)) := by kernel_rfl
theorem r15_L2_ok (call : CallF) (fuel base : Nat) : LpOk E call (lp15 call fuel base) fuel base 2 (loopB (blockB (seqR (seqL (seqR (blockB (seqL (seqR (loopB (blockB (seqR (seqL (seqR (seqR (seqR c15))))))))))))))) := by
  refine loop_ok (kp := keep15) (hb := Eq.mpr (r15_L2_lk call fuel base) (And.intro (And.intro trivial (And.intro trivial trivial)) (And.intro trivial trivial))) 44 [1, 4, 5, 6, 7] (fun n vs m K => r15_L2_R call fuel base n vs m K) ?_ ?_ (fun _ _ _ => rfl)
  · intro vs m K
    unfold r15_L2_R
    split <;> rfl
  · intro n vs m K hl
    match vs, hl with
    | [x1, x4, x5, x6, x7], _ => show _ = _; kernel_rfl
theorem r15_L0_lk (call : CallF) (fuel base : Nat) : LoopsOk E call (lp15 call fuel base) fuel base 0 (loopB (blockB (seqR (seqL (seqR (seqR (seqR c15))))))) = (And (And True (And True True)) (And (And True (And (And True (LpOk E call (lp15 call fuel base) fuel base 2 (loopB (blockB (seqR (seqL (seqR (blockB (seqL (seqR (loopB (blockB (seqR (seqL (seqR (seqR (seqR c15))))))))))))))))) True)) True)) := by kernel_rfl
theorem r15_L0_ok (call : CallF) (fuel base : Nat) : LpOk E call (lp15 call fuel base) fuel base 0 (loopB (blockB (seqR (seqL (seqR (seqR (seqR c15))))))) := by
  refine loop_ok (kp := keep15) (hb := Eq.mpr (r15_L0_lk call fuel base) (And.intro (And.intro trivial (And.intro trivial trivial)) (And.intro (And.intro trivial (And.intro (And.intro trivial (r15_L2_ok call fuel base)) trivial)) trivial))) 44 [1, 4, 5] (fun n vs m K => r15_L0_R call fuel base n vs m K) ?_ ?_ (fun _ _ _ => rfl)
  · intro vs m K
    unfold r15_L0_R
    split <;> rfl
  · intro n vs m K hl
    match vs, hl with
    | [x1, x4, x5], _ => show _ = _; kernel_rfl
theorem r15_eq (call : CallF) (fuel base : Nat) (x0 : Value) (m : M) : kbody E call keep15 (lp15 call fuel base) base Try.f15 [x0] m = r15 call fuel base x0 m := by
  kernel_rfl
noncomputable def rf15 : RF := fun call fuel base args m => match args with
  | [x0] => r15 call fuel base x0 m
  | _ => none
theorem r15_lk (call : CallF) (fuel base : Nat) : LoopsOk E call (lp15 call fuel base) fuel base 0 c15 = (And True (And (And True (And (And True True) True)) (And True (And (And True (LpOk E call (lp15 call fuel base) fuel base 0 (loopB (blockB (seqR (seqL (seqR (seqR (seqR c15))))))))) (And True True))))) := by kernel_rfl
theorem r15_fn : E.P.funcs[15]? = some Try.f15 := by kernel_rfl
theorem r15_body : Try.f15.body = some c15 := by kernel_rfl
theorem rf15_ok : RFok E 15 rf15 := by
  show RFok' E 15 rf15
  refine ⟨Try.f15, r15_fn, fun call fuel base args m r _ h => ?_⟩
  unfold rf15 at h
  split at h
  · rw [← r15_eq] at h
    exact kbody_sound (c := c15) r15_body (Eq.mpr (r15_lk call fuel base) (And.intro trivial (And.intro (And.intro trivial (And.intro (And.intro trivial trivial) trivial)) (And.intro trivial (And.intro (And.intro trivial (r15_L0_ok call fuel base)) (And.intro trivial trivial)))))) h
  · simp at h
end Go.AM
namespace Go.AM
open Go Go.Proofs
noncomputable def r16 (call : CallF) (fuel base : Nat) (x0 : Value) (m : M) : Res2 :=
  (k2 (xbox m x0) fun v1_1 m => (k1 (xload E.P m 23 v1_1) fun v4_2 => (kc (call base 47 [v4_2] m) (fun v5_3 m => (k1 (mun .not v5_3) fun v6_4 => (kb v6_4 (some (.ret (.tuple #[(.slice none 0 0), (.int .i64 2)]), m)) (k1 (xload E.P m 23 v1_1) fun v7_5 => (kc (call base 53 [v7_5] m) (fun v8_6 m => (some (.ret (.tuple #[v8_6, (.int .i64 0)]), m))) (fun v m => some (.pan v, m))))))) (fun v m => some (.pan v, m)))))
def keep16 : Keep := { region := fun i => ([[1], [1, 6], [2, 3], [2, 3]] : List (List Nat))[i]?, exit := fun i => ([] : List (List Nat))[i]?, ret := some [2, 3] }
noncomputable def lp16 (call : CallF) (fuel base : Nat) : Lp := lpsel []
noncomputable def c16 : Code := Try.f16.body.getD .skip
theorem r16_eq (call : CallF) (fuel base : Nat) (x0 : Value) (m : M) : kbody E call keep16 (lp16 call fuel base) base Try.f16 [x0] m = r16 call fuel base x0 m := by
  kernel_rfl
noncomputable def rf16 : RF := fun call fuel base args m => match args with
  | [x0] => r16 call fuel base x0 m
  | _ => none
theorem r16_lk (call : CallF) (fuel base : Nat) : LoopsOk E call (lp16 call fuel base) fuel base 0 c16 = (And True (And (And True (And (And True True) True)) (And True True))) := by kernel_rfl
theorem r16_fn : E.P.funcs[16]? = some Try.f16 := by kernel_rfl
theorem r16_body : Try.f16.body = some c16 := by kernel_rfl
theorem rf16_ok : RFok E 16 rf16 := by
  show RFok' E 16 rf16
  refine ⟨Try.f16, r16_fn, fun call fuel base args m r _ h => ?_⟩
  unfold rf16 at h
  split at h
  · rw [← r16_eq] at h
    exact kbody_sound (c := c16) r16_body (Eq.mpr (r16_lk call fuel base) (And.intro trivial (And.intro (And.intro trivial (And.intro (And.intro trivial trivial) trivial)) (And.intro trivial trivial)))) h
  · simp at h
end Go.AM
namespace Go.AM
open Go Go.Proofs
noncomputable def r19 (call : CallF) (fuel base : Nat) (m : M) : Res2 :=
  (k1 (mbuild E.P 23 [(0, (.int .i64 2)), (1, (.int .i64 2)), (2, (.int .i64 2))]) fun v8_1 => (k2 (xalloc E.P m 23) fun v1_2 m => (ks (xstore E.P base m 23 v1_2 v8_1) fun m => (k1 (xload E.P m 23 v1_2) fun v10_3 => (kc (call base 12 [v10_3] m) (fun v11_4 m => (k1 (mextract 0 v11_4) fun v12_5 => (k1 (mextract 1 v11_4) fun v13_6 => (k1 (xload E.P m 23 v1_2) fun v15_7 => (kc (call base 14 [v15_7] m) (fun v16_8 m => (k1 (mextract 0 v16_8) fun v17_9 => (k1 (mextract 1 v16_8) fun v18_10 => (k1 (xload E.P m 23 v1_2) fun v20_11 => (k2 (xbuildSlice E.P m 27 2 [(0, (.int .i64 2)), (1, (.int .i64 1))]) fun v21_12 m => (k2 (xbuildSlice E.P m 27 2 [(0, (.int .i64 1)), (1, (.int .i64 0))]) fun v22_13 m => (k2 (xbuildSlice E.P m 33 2 [(0, v21_12), (1, v22_13)]) fun v23_14 m => (kc (call base 24 [v20_11, v23_14] m) (fun v24_15 m => (k1 (mextract 0 v24_15) fun v25_16 => (k1 (mextract 1 v24_15) fun v26_17 => (k1 (mbin E .eql 24 v13_6 (.int .i64 0)) fun v28_18 => (kb v28_18 (k1 (mbin E .eql 3 v12_5 (.int .i64 20)) fun v31_19 => (kb v31_19 (k1 (mbin E .eql 24 v18_10 (.int .i64 0)) fun v35_20 => (kb v35_20 (k1 (mbin E .eql 3 v17_9 (.int .i64 20)) fun v39_21 => (kb v39_21 (k1 (mbin E .eql 24 v26_17 (.int .i64 0)) fun v43_22 => (kb v43_22 (k1 (mbin E .eql 3 v25_16 (.int .i64 10)) fun v47_23 => (fVal v47_23 fun v => some (.ret v, m))) (fVal (.bool false) fun v => some (.ret v, m)))) (fVal (.bool false) fun v => some (.ret v, m)))) (fVal (.bool false) fun v => some (.ret v, m)))) (fVal (.bool false) fun v => some (.ret v, m)))) (fVal (.bool false) fun v => some (.ret v, m))))))) (fun v m => some (.pan v, m)))))))))) (fun v m => some (.pan v, m))))))) (fun v m => some (.pan v, m)))))))
def keep19 : Keep := { region := fun i => ([[], [1], [1, 2, 3], [1, 2, 3, 4, 5], [2, 3, 4, 5, 6, 7], [0]] : List (List Nat))[i]?, exit := fun i => ([] : List (List Nat))[i]?, ret := some [0] }
noncomputable def lp19 (call : CallF) (fuel base : Nat) : Lp := lpsel []
noncomputable def c19 : Code := Try.f19.body.getD .skip
theorem r19_eq (call : CallF) (fuel base : Nat) (m : M) : kbody E call keep19 (lp19 call fuel base) base Try.f19 [] m = r19 call fuel base  m := by
  kernel_rfl
noncomputable def rf19 : RF := fun call fuel base args m => match args with
  | [] => r19 call fuel base  m
  | _ => none
theorem r19_lk (call : CallF) (fuel base : Nat) : LoopsOk E call (lp19 call fuel base) fuel base 0 c19 = (And True (And True (And True (And True (And True (And True True)))))) := by kernel_rfl
theorem r19_fn : E.P.funcs[19]? = some Try.f19 := by kernel_rfl
theorem r19_body : Try.f19.body = some c19 := by kernel_rfl
theorem rf19_ok : RFok E 19 rf19 := by
  show RFok' E 19 rf19
  refine ⟨Try.f19, r19_fn, fun call fuel base args m r _ h => ?_⟩
  unfold rf19 at h
  split at h
  · rw [← r19_eq] at h
    exact kbody_sound (c := c19) r19_body (Eq.mpr (r19_lk call fuel base) (And.intro trivial (And.intro trivial (And.intro trivial (And.intro trivial (And.intro trivial (And.intro trivial trivial))))))) h
  · simp at h
end Go.AM
namespace Go.AM
open Go Go.Proofs
noncomputable def r24 (call : CallF) (fuel base : Nat) (x0 : Value) (x1 : Value) (m : M) : Res2 :=
  (k2 (xbox m x0) fun v2_1 m => (k1 (xload E.P m 23 v2_1) fun v9_2 => (kc (call base 56 [v9_2, x1] m) (fun v11_3 m => (k1 (mextract 0 v11_3) fun v12_4 => (k1 (mextract 1 v11_3) fun v13_5 => (k2 (xalloc E.P m 79) fun v6_6 m => (ks (xstore E.P base m 79 v6_6 v12_4) fun m => (k1 (mbin E .neq 24 v13_5 (.int .i64 0)) fun v15_7 => (kb v15_7 (some (.ret (.tuple #[(.int .i64 0), v13_5]), m)) (k1 (xload E.P m 79 v6_6) fun v17_8 => (kc (call base 57 [v17_8] m) (fun v18_9 m => (some (.ret (.tuple #[v18_9, (.int .i64 0)]), m))) (fun v m => some (.pan v, m))))))))))) (fun v m => some (.pan v, m)))))
def keep24 : Keep := { region := fun i => ([[1, 2], [6, 7], [6, 7, 15], [4, 5], [4, 5]] : List (List Nat))[i]?, exit := fun i => ([] : List (List Nat))[i]?, ret := some [4, 5] }
noncomputable def lp24 (call : CallF) (fuel base : Nat) : Lp := lpsel []
noncomputable def c24 : Code := Try.f24.body.getD .skip
theorem r24_eq (call : CallF) (fuel base : Nat) (x0 : Value) (x1 : Value) (m : M) : kbody E call keep24 (lp24 call fuel base) base Try.f24 [x0, x1] m = r24 call fuel base x0 x1 m := by
  kernel_rfl
noncomputable def rf24 : RF := fun call fuel base args m => match args with
  | [x0, x1] => r24 call fuel base x0 x1 m
  | _ => none
theorem r24_lk (call : CallF) (fuel base : Nat) : LoopsOk E call (lp24 call fuel base) fuel base 0 c24 = (And True (And True (And (And True (And (And True True) True)) (And True True)))) := by kernel_rfl
theorem r24_fn : E.P.funcs[24]? = some Try.f24 := by kernel_rfl
theorem r24_body : Try.f24.body = some c24 := by kernel_rfl
theorem rf24_ok : RFok E 24 rf24 := by
  show RFok' E 24 rf24
  refine ⟨Try.f24, r24_fn, fun call fuel base args m r _ h => ?_⟩
  unfold rf24 at h
  split at h
  · rw [← r24_eq] at h
    exact kbody_sound (c := c24) r24_body (Eq.mpr (r24_lk call fuel base) (And.intro trivial (And.intro trivial (And.intro (And.intro trivial (And.intro (And.intro trivial trivial) trivial)) (And.intro trivial trivial))))) h
  · simp at h
end Go.AM
namespace Go.AM
open Go Go.Proofs
noncomputable def r41_L0 (call : CallF) (fuel base : Nat) (kx0 : Value → M → Res2) (n : Nat) : Value → Value → M → Res2 :=
  Nat.rec (motive := fun _ => Value → Value → M → Res2) (fun _ _ _ => none)
    (fun _ ih x0 x1 m =>
      (k1 (mbin E .neq 3 x1 (.int .i64 0)) fun v6_1 => (kb v6_1 (k1 (mbin E .rem 3 x0 x1) fun v10_2 => (ih x1 v10_2 m)) (kx0 x0 m)))) n
noncomputable def r41 (call : CallF) (fuel base : Nat) (x0 : Value) (x1 : Value) (m : M) : Res2 :=
  (r41_L0 call fuel base (fun y0_3 m => (fVal y0_3 fun v => some (.ret v, m))) fuel x0 x1 m)
def keep41 : Keep := { region := fun i => ([[0, 1], [0, 1, 6], [0, 1], [4]] : List (List Nat))[i]?, exit := fun i => ([[0], [0, 1]] : List (List Nat))[i]?, ret := some [4] }
noncomputable def r41_L0_R (call : CallF) (fuel base n : Nat) (vs : List Value) (m : M) (K : KT) : Res2 := match vs with
  | [x0, x1] => r41_L0 call fuel base (fun y0 m => K (.exit 0) { n := 12, l := [(0, y0)] } m) n x0 x1 m
  | _ => none
noncomputable def lp41 (call : CallF) (fuel base : Nat) : Lp := lpsel [(0, fun T m K => kslots 12 [0, 1] T fun vs => r41_L0_R call fuel base fuel vs m K)]
noncomputable def c41 : Code := Try.f41.body.getD .skip
theorem r41_L0_lk (call : CallF) (fuel base : Nat) : LoopsOk E call (lp41 call fuel base) fuel base 0 (loopB (blockB (seqL (seqR c41)))) = (And (And True (And True True)) True) := by kernel_rfl
theorem r41_L0_ok (call : CallF) (fuel base : Nat) : LpOk E call (lp41 call fuel base) fuel base 0 (loopB (blockB (seqL (seqR c41)))) := by
  refine loop_ok (kp := keep41) (hb := Eq.mpr (r41_L0_lk call fuel base) (And.intro (And.intro trivial (And.intro trivial trivial)) trivial)) 12 [0, 1] (fun n vs m K => r41_L0_R call fuel base n vs m K) ?_ ?_ (fun _ _ _ => rfl)
  · intro vs m K
    unfold r41_L0_R
    split <;> rfl
  · intro n vs m K hl
    match vs, hl with
    | [x0, x1], _ => show _ = _; kernel_rfl
theorem r41_eq (call : CallF) (fuel base : Nat) (x0 : Value) (x1 : Value) (m : M) : kbody E call keep41 (lp41 call fuel base) base Try.f41 [x0, x1] m = r41 call fuel base x0 x1 m := by
  kernel_rfl
noncomputable def rf41 : RF := fun call fuel base args m => match args with
  | [x0, x1] => r41 call fuel base x0 x1 m
  | _ => none
theorem r41_lk (call : CallF) (fuel base : Nat) : LoopsOk E call (lp41 call fuel base) fuel base 0 c41 = (And True (And (LpOk E call (lp41 call fuel base) fuel base 0 (loopB (blockB (seqL (seqR c41))))) (And True True))) := by kernel_rfl
theorem r41_fn : E.P.funcs[41]? = some Try.f41 := by kernel_rfl
theorem r41_body : Try.f41.body = some c41 := by kernel_rfl
theorem rf41_ok : RFok E 41 rf41 := by
  show RFok' E 41 rf41
  refine ⟨Try.f41, r41_fn, fun call fuel base args m r _ h => ?_⟩
  unfold rf41 at h
  split at h
  · rw [← r41_eq] at h
    exact kbody_sound (c := c41) r41_body (Eq.mpr (r41_lk call fuel base) (And.intro trivial (And.intro (r41_L0_ok call fuel base) (And.intro trivial trivial)))) h
  · simp at h
end Go.AM
namespace Go.AM
open Go Go.Proofs
noncomputable def r47 (call : CallF) (fuel base : Nat) (x0 : Value) (m : M) : Res2 :=
  (k2 (xbox m x0) fun v1_1 m => (k1 (mfieldAddr E.P 23 v1_1 0) fun v3_2 => (k1 (xload E.P m 3 v3_2) fun v4_3 => (kc (call base 75 [v4_3] m) (fun v5_4 m => (kb v5_4 (k1 (mfieldAddr E.P 23 v1_1 1) fun v7_5 => (k1 (xload E.P m 3 v7_5) fun v8_6 => (kc (call base 75 [v8_6] m) (fun v9_7 m => (kb v9_7 (k1 (mfieldAddr E.P 23 v1_1 2) fun v12_8 => (k1 (xload E.P m 3 v12_8) fun v13_9 => (kc (call base 75 [v13_9] m) (fun v14_10 m => (fVal v14_10 fun v => some (.ret v, m))) (fun v m => some (.pan v, m))))) (fVal (.bool false) fun v => some (.ret v, m)))) (fun v m => some (.pan v, m))))) (fVal (.bool false) fun v => some (.ret v, m)))) (fun v m => some (.pan v, m))))))
def keep47 : Keep := { region := fun i => ([[1], [2]] : List (List Nat))[i]?, exit := fun i => ([] : List (List Nat))[i]?, ret := some [2] }
noncomputable def lp47 (call : CallF) (fuel base : Nat) : Lp := lpsel []
noncomputable def c47 : Code := Try.f47.body.getD .skip
theorem r47_eq (call : CallF) (fuel base : Nat) (x0 : Value) (m : M) : kbody E call keep47 (lp47 call fuel base) base Try.f47 [x0] m = r47 call fuel base x0 m := by
  kernel_rfl
noncomputable def rf47 : RF := fun call fuel base args m => match args with
  | [x0] => r47 call fuel base x0 m
  | _ => none
theorem r47_lk (call : CallF) (fuel base : Nat) : LoopsOk E call (lp47 call fuel base) fuel base 0 c47 = (And True (And True True)) := by kernel_rfl
theorem r47_fn : E.P.funcs[47]? = some Try.f47 := by kernel_rfl
theorem r47_body : Try.f47.body = some c47 := by kernel_rfl
theorem rf47_ok : RFok E 47 rf47 := by
  show RFok' E 47 rf47
  refine ⟨Try.f47, r47_fn, fun call fuel base args m r _ h => ?_⟩
  unfold rf47 at h
  split at h
  · rw [← r47_eq] at h
    exact kbody_sound (c := c47) r47_body (Eq.mpr (r47_lk call fuel base) (And.intro trivial (And.intro trivial trivial))) h
  · simp at h
end Go.AM
namespace Go.AM
open Go Go.Proofs
noncomputable def r48_L2 (call : CallF) (fuel base : Nat) (kx2 : Value → Value → Value → Value → M → Res2) (n : Nat) : Value → Value → Value → Value → Value → M → Res2 :=
  Nat.rec (motive := fun _ => Value → Value → Value → Value → Value → M → Res2) (fun _ _ _ _ _ _ => none)
    (fun _ ih x1 x3 x4 x5 x6 m =>
      (k1 (mfieldAddr E.P 23 x1 1) fun v14_5 => (k1 (xload E.P m 3 v14_5) fun v15_6 => (k1 (mbin E .leq 3 x6 v15_6) fun v16_7 => (kb v16_7 (k1 (mbin E .add 3 x5 x6) fun v22_8 => (k1 (mfieldAddr E.P 23 x1 2) fun v23_9 => (k1 (xload E.P m 3 v23_9) fun v24_10 => (k1 (mbin E .add 3 v22_8 v24_10) fun v25_11 => (k1 (mbin E .sub 3 v25_11 (.int .i64 1)) fun v26_12 => (k1 (mbin E .mul 3 x3 v26_12) fun v27_13 => (k1 (mbin E .add 3 x5 x6) fun v31_14 => (k1 (mbin E .sub 3 v31_14 (.int .i64 1)) fun v32_15 => (k1 (mbin E .mul 3 x4 v32_15) fun v33_16 => (k1 (mbin E .add 3 x6 (.int .i64 1)) fun v18_17 => (ih x1 v27_13 v33_16 x5 v18_17 m))))))))))) (kx2 x1 x3 x4 x5 m)))))) n
noncomputable def r48_L0 (call : CallF) (fuel base : Nat) (kx0 : Value → Value → M → Res2) (n : Nat) : Value → Value → Value → Value → M → Res2 :=
  Nat.rec (motive := fun _ => Value → Value → Value → Value → M → Res2) (fun _ _ _ _ _ => none)
    (fun _ ih x1 x3 x4 x5 m =>
      (k1 (mfieldAddr E.P 23 x1 0) fun v8_2 => (k1 (xload E.P m 3 v8_2) fun v9_3 => (k1 (mbin E .leq 3 x5 v9_3) fun v10_4 => (kb v10_4 (r48_L2 call fuel base (fun y1_18 y3_19 y4_20 y5_21 m => (k1 (mbin E .add 3 y5_21 (.int .i64 1)) fun v12_22 => (ih y1_18 y3_19 y4_20 v12_22 m))) fuel x1 x3 x4 x5 (.int .i64 1) m) (kx0 x3 x4 m)))))) n
noncomputable def r48 (call : CallF) (fuel base : Nat) (x0 : Value) (m : M) : Res2 :=
  (k2 (xbox m x0) fun v1_1 m => (r48_L0 call fuel base (fun y3_23 y4_24 m => (k1 (mbin E .quo 3 y3_23 y4_24) fun v36_25 => (fVal v36_25 fun v => some (.ret v, m)))) fuel v1_1 (.int .i64 1) (.int .i64 1) (.int .i64 1) m))
def keep48 : Keep := { region := fun i => ([[1], [1, 3, 4], [1, 3, 4, 5], [1, 3, 4, 5, 10], [1, 3, 4, 5], [1, 3, 4, 5, 6], [1, 3, 4, 5, 6, 16], [1, 3, 4, 5, 6], [1, 3, 4, 5, 6], [1, 3, 4, 5, 6], [2]] : List (List Nat))[i]?, exit := fun i => ([[3, 4], [1, 3, 4, 5], [1, 3, 4, 5], [1, 3, 4, 5, 6]] : List (List Nat))[i]?, ret := some [2] }
noncomputable def r48_L2_R (call : CallF) (fuel base n : Nat) (vs : List Value) (m : M) (K : KT) : Res2 := match vs with
  | [x1, x3, x4, x5, x6] => r48_L2 call fuel base (fun y1 y3 y4 y5 m => K (.exit 2) { n := 37, l := [(1, y1), (3, y3), (4, y4), (5, y5)] } m) n x1 x3 x4 x5 x6 m
  | _ => none
noncomputable def r48_L0_R (call : CallF) (fuel base n : Nat) (vs : List Value) (m : M) (K : KT) : Res2 := match vs with
  | [x1, x3, x4, x5] => r48_L0 call fuel base (fun y3 y4 m => K (.exit 0) { n := 37, l := [(3, y3), (4, y4)] } m) n x1 x3 x4 x5 m
  | _ => none
noncomputable def lp48 (call : CallF) (fuel base : Nat) : Lp := lpsel [(2, fun T m K => kslots 37 [1, 3, 4, 5, 6] T fun vs => r48_L2_R call fuel base fuel vs m K), (0, fun T m K => kslots 37 [1, 3, 4, 5] T fun vs => r48_L0_R call fuel base fuel vs m K)]
noncomputable def c48 : Code := Try.f48.body.getD .skip
theorem r48_L2_lk (call : CallF) (fuel base : Nat) : LoopsOk E call (lp48 call fuel base) fuel base 2 (loopB (blockB (seqR (blockB (seqL (seqR (loopB (blockB (seqR (seqL (seqR (seqR c48)))))))))))) = (And (And True (And True True)) (And (And True True) True)) := by kernel_rfl
theorem r48_L2_ok (call : CallF) (fuel base : Nat) : LpOk E call (lp48 call fuel base) fuel base 2 (loopB (blockB (seqR (blockB (seqL (seqR (loopB (blockB (seqR (seqL (seqR (seqR c48)))))))))))) := by
  refine loop_ok (kp := keep48) (hb := Eq.mpr (r48_L2_lk call fuel base) (And.intro (And.intro trivial (And.intro trivial trivial)) (And.intro (And.intro trivial trivial) trivial))) 37 [1, 3, 4, 5, 6] (fun n vs m K => r48_L2_R call fuel base n vs m K) ?_ ?_ (fun _ _ _ => rfl)
  · intro vs m K
    unfold r48_L2_R
    split <;> rfl
  · intro n vs m K hl
    match vs, hl with
    | [x1, x3, x4, x5, x6], _ => show _ = _; kernel_rfl
theorem r48_L0_lk (call : CallF) (fuel base : Nat) : LoopsOk E call (lp48 call fuel base) fuel base 0 (loopB (blockB (seqR (seqL (seqR (seqR c48)))))) = (And (And True (And True True)) (And (And True (LpOk E call (lp48 call fuel base) fuel base 2 (loopB (blockB (seqR (blockB (seqL (seqR (loopB (blockB (seqR (seqL (seqR (seqR c48)))))))))))))) True)) := by kernel_rfl
theorem r48_L0_ok (call : CallF) (fuel base : Nat) : LpOk E call (lp48 call fuel base) fuel base 0 (loopB (blockB (seqR (seqL (seqR (seqR c48)))))) := by
  refine loop_ok (kp := keep48) (hb := Eq.mpr (r48_L0_lk call fuel base) (And.intro (And.intro trivial (And.intro trivial trivial)) (And.intro (And.intro trivial (r48_L2_ok call fuel base)) trivial))) 37 [1, 3, 4, 5] (fun n vs m K => r48_L0_R call fuel base n vs m K) ?_ ?_ (fun _ _ _ => rfl)
  · intro vs m K
    unfold r48_L0_R
    split <;> rfl
  · intro n vs m K hl
    match vs, hl with
    | [x1, x3, x4, x5], _ => show _ = _; kernel_rfl
theorem r48_eq (call : CallF) (fuel base : Nat) (x0 : Value) (m : M) : kbody E call keep48 (lp48 call fuel base) base Try.f48 [x0] m = r48 call fuel base x0 m := by
  kernel_rfl
noncomputable def rf48 : RF := fun call fuel base args m => match args with
  | [x0] => r48 call fuel base x0 m
  | _ => none
theorem r48_lk (call : CallF) (fuel base : Nat) : LoopsOk E call (lp48 call fuel base) fuel base 0 c48 = (And True (And True (And (And True (LpOk E call (lp48 call fuel base) fuel base 0 (loopB (blockB (seqR (seqL (seqR (seqR c48)))))))) (And True True)))) := by kernel_rfl
theorem r48_fn : E.P.funcs[48]? = some Try.f48 := by kernel_rfl
theorem r48_body : Try.f48.body = some c48 := by kernel_rfl
theorem rf48_ok : RFok E 48 rf48 := by
  show RFok' E 48 rf48
  refine ⟨Try.f48, r48_fn, fun call fuel base args m r _ h => ?_⟩
  unfold rf48 at h
  split at h
  · rw [← r48_eq] at h
    exact kbody_sound (c := c48) r48_body (Eq.mpr (r48_lk call fuel base) (And.intro trivial (And.intro trivial (And.intro (And.intro trivial (r48_L0_ok call fuel base)) (And.intro trivial trivial))))) h
  · simp at h
end Go.AM
namespace Go.AM
open Go Go.Proofs
noncomputable def r49_L2 (call : CallF) (fuel base : Nat) (kx2 : Value → Value → Value → Value → M → Res2) (n : Nat) : Value → Value → Value → Value → Value → Value → Value → M → Res2 :=
  Nat.rec (motive := fun _ => Value → Value → Value → Value → Value → Value → Value → M → Res2) (fun _ _ _ _ _ _ _ _ => none)
    (fun _ ih x1 x3 x4 x10 x11 x24 x25 m =>
      (k1 (mbin E .lss 3 x25 x24) fun v26_14 => (kb v26_14 (k1 (mindexAddr E.P 33 x3 x4) fun v30_15 => (k1 (xload E.P m 27 v30_15) fun v31_16 => (k1 (mfieldAddr E.P 23 x1 1) fun v33_17 => (k1 (xload E.P m 3 v33_17) fun v34_18 => (k1 (mfieldAddr E.P 23 x1 2) fun v35_19 => (k1 (xload E.P m 3 v35_19) fun v36_20 => (k1 (mbin E .add 3 v34_18 v36_20) fun v37_21 => (k1 (mfieldAddr E.P 23 x1 1) fun v38_22 => (k1 (xload E.P m 3 v38_22) fun v39_23 => (k1 (mbin E .sub 3 v39_23 x4) fun v41_24 => (k1 (mbin E .add 3 v41_24 x25) fun v43_25 => (kc (kB m (call m.length 76 [v37_21, v43_25] m)) (fun v44_26 m => (k1 (mindexAddr E.P 27 v31_16 x25) fun v45_27 => (ks (xstore E.P base m 3 v45_27 v44_26) fun m => (k1 (mbin E .add 3 x25 (.int .i64 1)) fun v46_28 => (ih x1 x3 x4 x10 x11 x24 v46_28 m))))) (fun _ _ => none))))))))))))) (kx2 x1 x3 x10 x11 m)))) n
noncomputable def r49_L0 (call : CallF) (fuel base : Nat) (kx0 : Value → M → Res2) (n : Nat) : Value → Value → Value → Value → M → Res2 :=
  Nat.rec (motive := fun _ => Value → Value → Value → Value → M → Res2) (fun _ _ _ _ _ => none)
    (fun _ ih x1 x3 x10 x11 m =>
      (k1 (mbin E .lss 3 x11 x10) fun v12_6 => (kb v12_6 (k1 (mfieldAddr E.P 23 x1 0) fun v16_7 => (k1 (xload E.P m 3 v16_7) fun v17_8 => (k2 (xmakeSlice E.P m 27 v17_8 v17_8) fun v18_9 m => (k1 (mindexAddr E.P 33 x3 x11) fun v19_10 => (ks (xstore E.P base m 27 v19_10 v18_9) fun m => (k1 (mindexAddr E.P 33 x3 x11) fun v22_11 => (k1 (xload E.P m 27 v22_11) fun v23_12 => (k2 (vcall E.P base m .len [27] [v23_12]) fun v24_13 m => (r49_L2 call fuel base (fun y1_29 y3_30 y10_31 y11_32 m => (k1 (mbin E .add 3 y11_32 (.int .i64 1)) fun v47_33 => (ih y1_29 y3_30 y10_31 v47_33 m))) fuel x1 x3 x11 x10 x11 v24_13 (.int .i64 0) m))))))))) (kx0 x3 m)))) n
noncomputable def r49 (call : CallF) (fuel base : Nat) (x0 : Value) (m : M) : Res2 :=
  (k2 (xbox m x0) fun v1_1 m => (k1 (mfieldAddr E.P 23 v1_1 0) fun v6_2 => (k1 (xload E.P m 3 v6_2) fun v7_3 => (k2 (xmakeSlice E.P m 33 v7_3 v7_3) fun v8_4 m => (k2 (vcall E.P base m .len [33] [v8_4]) fun v10_5 m => (r49_L0 call fuel base (fun y3_34 m => (kc (call base 77 [y3_34] m) (fun v49_35 m => (fVal v49_35 fun v => some (.ret v, m))) (fun v m => some (.pan v, m)))) fuel v1_1 v8_4 v10_5 (.int .i64 0) m))))))
def keep49 : Keep := { region := fun i => ([[1], [1, 3], [1, 3, 10, 11], [1, 3, 10, 11, 12], [1, 3, 4, 10, 11], [1, 3, 4, 10, 11], [1, 3, 4, 10, 11, 24, 25], [1, 3, 4, 10, 11, 24, 25, 26], [1, 3, 4, 5, 10, 11, 24, 25], [1, 3, 4, 10, 11, 24, 25], [1, 3, 4, 10, 11, 24, 25], [1, 3, 10, 11], [2]] : List (List Nat))[i]?, exit := fun i => ([[3], [1, 3, 10, 11], [1, 3, 10, 11], [1, 3, 4, 10, 11, 24, 25]] : List (List Nat))[i]?, ret := some [2] }
noncomputable def r49_L2_R (call : CallF) (fuel base n : Nat) (vs : List Value) (m : M) (K : KT) : Res2 := match vs with
  | [x1, x3, x4, x10, x11, x24, x25] => r49_L2 call fuel base (fun y1 y3 y10 y11 m => K (.exit 2) { n := 50, l := [(1, y1), (3, y3), (10, y10), (11, y11)] } m) n x1 x3 x4 x10 x11 x24 x25 m
  | _ => none
noncomputable def r49_L0_R (call : CallF) (fuel base n : Nat) (vs : List Value) (m : M) (K : KT) : Res2 := match vs with
  | [x1, x3, x10, x11] => r49_L0 call fuel base (fun y3 m => K (.exit 0) { n := 50, l := [(3, y3)] } m) n x1 x3 x10 x11 m
  | _ => none
noncomputable def lp49 (call : CallF) (fuel base : Nat) : Lp := lpsel [(2, fun T m K => kslots 50 [1, 3, 4, 10, 11, 24, 25] T fun vs => r49_L2_R call fuel base fuel vs m K), (0, fun T m K => kslots 50 [1, 3, 10, 11] T fun vs => r49_L0_R call fuel base fuel vs m K)]
noncomputable def c49 : Code := Try.f49.body.getD .skip
theorem r49_L2_lk (call : CallF) (fuel base : Nat) : LoopsOk E call (lp49 call fuel base) fuel base 2 (loopB (blockB (seqR (seqR (seqR (blockB (seqL (seqR (seqR (loopB (blockB (seqR (seqL (seqR (seqR c49))))))))))))))) = (And True (And (And True True) (And (And True True) True))) := by kernel_rfl
theorem r49_L2_ok (call : CallF) (fuel base : Nat) : LpOk E call (lp49 call fuel base) fuel base 2 (loopB (blockB (seqR (seqR (seqR (blockB (seqL (seqR (seqR (loopB (blockB (seqR (seqL (seqR (seqR c49))))))))))))))) := by
  refine loop_ok (kp := keep49) (hb := Eq.mpr (r49_L2_lk call fuel base) (And.intro trivial (And.intro (And.intro trivial trivial) (And.intro (And.intro trivial trivial) trivial)))) 50 [1, 3, 4, 10, 11, 24, 25] (fun n vs m K => r49_L2_R call fuel base n vs m K) ?_ ?_ (fun _ _ _ => rfl)
  · intro vs m K
    unfold r49_L2_R
    split <;> rfl
  · intro n vs m K hl
    match vs, hl with
    | [x1, x3, x4, x10, x11, x24, x25], _ => show _ = _; kernel_rfl
theorem r49_L0_lk (call : CallF) (fuel base : Nat) : LoopsOk E call (lp49 call fuel base) fuel base 0 (loopB (blockB (seqR (seqL (seqR (seqR c49)))))) = (And True (And (And True True) (And (And True (And True (And True (LpOk E call (lp49 call fuel base) fuel base 2 (loopB (blockB (seqR (seqR (seqR (blockB (seqL (seqR (seqR (loopB (blockB (seqR (seqL (seqR (seqR c49))))))))))))))))))) True))) := by kernel_rfl
theorem r49_L0_ok (call : CallF) (fuel base : Nat) : LpOk E call (lp49 call fuel base) fuel base 0 (loopB (blockB (seqR (seqL (seqR (seqR c49)))))) := by
  refine loop_ok (kp := keep49) (hb := Eq.mpr (r49_L0_lk call fuel base) (And.intro trivial (And.intro (And.intro trivial trivial) (And.intro (And.intro trivial (And.intro trivial (And.intro trivial (r49_L2_ok call fuel base)))) trivial)))) 50 [1, 3, 10, 11] (fun n vs m K => r49_L0_R call fuel base n vs m K) ?_ ?_ (fun _ _ _ => rfl)
  · intro vs m K
    unfold r49_L0_R
    split <;> rfl
  · intro n vs m K hl
    match vs, hl with
    | [x1, x3, x10, x11], _ => show _ = _; kernel_rfl
theorem r49_eq (call : CallF) (fuel base : Nat) (x0 : Value) (m : M) : kbody E call keep49 (lp49 call fuel base) base Try.f49 [x0] m = r49 call fuel base x0 m := by
  kernel_rfl
noncomputable def rf49 : RF := fun call fuel base args m => match args with
  | [x0] => r49 call fuel base x0 m
  | _ => none
theorem r49_lk (call : CallF) (fuel base : Nat) : LoopsOk E call (lp49 call fuel base) fuel base 0 c49 = (And True (And True (And (And True (LpOk E call (lp49 call fuel base) fuel base 0 (loopB (blockB (seqR (seqL (seqR (seqR c49)))))))) (And True True)))) := by kernel_rfl
theorem r49_fn : E.P.funcs[49]? = some Try.f49 := by kernel_rfl
theorem r49_body : Try.f49.body = some c49 := by kernel_rfl
theorem rf49_ok : RFok E 49 rf49 := by
  show RFok' E 49 rf49
  refine ⟨Try.f49, r49_fn, fun call fuel base args m r _ h => ?_⟩
  unfold rf49 at h
  split at h
  · rw [← r49_eq] at h
    exact kbody_sound (c := c49) r49_body (Eq.mpr (r49_lk call fuel base) (And.intro trivial (And.intro trivial (And.intro (And.intro trivial (r49_L0_ok call fuel base)) (And.intro trivial trivial))))) h
  · simp at h
end Go.AM
namespace Go.AM
open Go Go.Proofs
noncomputable def r50 (call : CallF) (fuel base : Nat) (x0 : Value) (m : M) : Res2 :=
  (k2 (xbox m x0) fun v1_1 m => (k1 (mfieldAddr E.P 23 v1_1 0) fun v3_2 => (k1 (xload E.P m 3 v3_2) fun v4_3 => (k1 (mbin E .geq 3 v4_3 (.int .i64 1)) fun v5_4 => (kb v5_4 (k1 (mfieldAddr E.P 23 v1_1 0) fun v7_5 => (k1 (xload E.P m 3 v7_5) fun v8_6 => (k1 (mbin E .leq 3 v8_6 (.int .i64 4)) fun v9_7 => (kb v9_7 (k1 (mfieldAddr E.P 23 v1_1 1) fun v12_8 => (k1 (xload E.P m 3 v12_8) fun v13_9 => (k1 (mbin E .geq 3 v13_9 (.int .i64 1)) fun v14_10 => (kb v14_10 (k1 (mfieldAddr E.P 23 v1_1 1) fun v17_11 => (k1 (xload E.P m 3 v17_11) fun v18_12 => (k1 (mbin E .leq 3 v18_12 (.int .i64 4)) fun v19_13 => (kb v19_13 (k1 (mfieldAddr E.P 23 v1_1 2) fun v22_14 => (k1 (xload E.P m 3 v22_14) fun v23_15 => (k1 (mbin E .geq 3 v23_15 (.int .i64 1)) fun v24_16 => (kb v24_16 (k1 (mfieldAddr E.P 23 v1_1 2) fun v27_17 => (k1 (xload E.P m 3 v27_17) fun v28_18 => (k1 (mbin E .leq 3 v28_18 (.int .i64 4)) fun v29_19 => (fVal v29_19 fun v => some (.ret v, m))))) (fVal (.bool false) fun v => some (.ret v, m)))))) (fVal (.bool false) fun v => some (.ret v, m)))))) (fVal (.bool false) fun v => some (.ret v, m)))))) (fVal (.bool false) fun v => some (.ret v, m)))))) (fVal (.bool false) fun v => some (.ret v, m)))))))
def keep50 : Keep := { region := fun i => ([[1], [2]] : List (List Nat))[i]?, exit := fun i => ([] : List (List Nat))[i]?, ret := some [2] }
noncomputable def lp50 (call : CallF) (fuel base : Nat) : Lp := lpsel []
noncomputable def c50 : Code := Try.f50.body.getD .skip
theorem r50_eq (call : CallF) (fuel base : Nat) (x0 : Value) (m : M) : kbody E call keep50 (lp50 call fuel base) base Try.f50 [x0] m = r50 call fuel base x0 m := by
  kernel_rfl
noncomputable def rf50 : RF := fun call fuel base args m => match args with
  | [x0] => r50 call fuel base x0 m
  | _ => none
theorem r50_lk (call : CallF) (fuel base : Nat) : LoopsOk E call (lp50 call fuel base) fuel base 0 c50 = (And True (And True True)) := by kernel_rfl
theorem r50_fn : E.P.funcs[50]? = some Try.f50 := by kernel_rfl
theorem r50_body : Try.f50.body = some c50 := by kernel_rfl
theorem rf50_ok : RFok E 50 rf50 := by
  show RFok' E 50 rf50
  refine ⟨Try.f50, r50_fn, fun call fuel base args m r _ h => ?_⟩
  unfold rf50 at h
  split at h
  · rw [← r50_eq] at h
    exact kbody_sound (c := c50) r50_body (Eq.mpr (r50_lk call fuel base) (And.intro trivial (And.intro trivial trivial))) h
  · simp at h
end Go.AM
namespace Go.AM
open Go Go.Proofs
noncomputable def r51 (call : CallF) (fuel base : Nat) (x0 : Value) (x1 : Value) (m : M) : Res2 :=
  (k1 (mbin E .lss 3 x1 (.int .i64 0)) fun v6_1 => (kb v6_1 (fVal (.int .i64 0) fun v => some (.ret v, m)) (k1 (mbin E .gtr 3 x1 x0) fun v10_2 => (kb v10_2 (fVal (.int .i64 0) fun v => some (.ret v, m)) (k1 (mbin E .eql 3 x1 (.int .i64 0)) fun v13_3 => (kb v13_3 (fVal (.int .i64 1) fun v => some (.ret v, m)) (k1 (mbin E .eql 3 x1 x0) fun v17_4 => (kb v17_4 (fVal (.int .i64 1) fun v => some (.ret v, m)) (k1 (mbin E .sub 3 x0 (.int .i64 1)) fun v20_5 => (k1 (mbin E .sub 3 x1 (.int .i64 1)) fun v22_6 => (kc (call base 51 [v20_5, v22_6] m) (fun v23_7 m => (k1 (mbin E .sub 3 x0 (.int .i64 1)) fun v25_8 => (kc (call base 51 [v25_8, x1] m) (fun v27_9 m => (k1 (mbin E .add 3 v23_7 v27_9) fun v28_10 => (fVal v28_10 fun v => some (.ret v, m)))) (fun v m => some (.pan v, m))))) (fun v m => some (.pan v, m)))))))))))))
def keep51 : Keep := { region := fun i => ([[0, 1], [0, 1, 11], [4], [0, 1, 18], [4], [4]] : List (List Nat))[i]?, exit := fun i => ([] : List (List Nat))[i]?, ret := some [4] }
noncomputable def lp51 (call : CallF) (fuel base : Nat) : Lp := lpsel []
noncomputable def c51 : Code := Try.f51.body.getD .skip
theorem r51_eq (call : CallF) (fuel base : Nat) (x0 : Value) (x1 : Value) (m : M) : kbody E call keep51 (lp51 call fuel base) base Try.f51 [x0, x1] m = r51 call fuel base x0 x1 m := by
  kernel_rfl
noncomputable def rf51 : RF := fun call fuel base args m => match args with
  | [x0, x1] => r51 call fuel base x0 x1 m
  | _ => none
theorem r51_lk (call : CallF) (fuel base : Nat) : LoopsOk E call (lp51 call fuel base) fuel base 0 c51 = (And True (And (And True (And (And True True) True)) (And (And True (And (And True True) True)) (And True True)))) := by kernel_rfl
theorem r51_fn : E.P.funcs[51]? = some Try.f51 := by kernel_rfl
theorem r51_body : Try.f51.body = some c51 := by kernel_rfl
theorem rf51_ok : RFok E 51 rf51 := by
  show RFok' E 51 rf51
  refine ⟨Try.f51, r51_fn, fun call fuel base args m r _ h => ?_⟩
  unfold rf51 at h
  split at h
  · rw [← r51_eq] at h
    exact kbody_sound (c := c51) r51_body (Eq.mpr (r51_lk call fuel base) (And.intro trivial (And.intro (And.intro trivial (And.intro (And.intro trivial trivial) trivial)) (And.intro (And.intro trivial (And.intro (And.intro trivial trivial) trivial)) (And.intro trivial trivial))))) h
  · simp at h
end Go.AM
namespace Go.AM
open Go Go.Proofs
noncomputable def r52_L2 (call : CallF) (fuel base : Nat) (kx2 : Value → Value → Value → Value → Value → M → Res2) (n : Nat) : Value → Value → Value → Value → Value → Value → M → Res2 :=
  Nat.rec (motive := fun _ => Value → Value → Value → Value → Value → Value → M → Res2) (fun _ _ _ _ _ _ _ => none)
    (fun _ ih x0 x3 x4 x5 x6 x7 m =>
      (k2 (vcall E.P base m .len [33] [x0]) fun v20_5 m => (k1 (mbin E .lss 3 x7 v20_5) fun v21_6 => (kb v21_6 (k1 (mindexAddr E.P 33 x0 x7) fun v27_7 => (k1 (xload E.P m 27 v27_7) fun v28_8 => (k1 (mslice E.P m 27 v28_8 none (some x5) none) fun v30_9 => (k2 (vcall E.P base m .append [27, 27] [(.slice none 0 0), v30_9]) fun v31_10 m => (k1 (mindexAddr E.P 33 x0 x7) fun v36_11 => (k1 (xload E.P m 27 v36_11) fun v37_12 => (k1 (mbin E .add 3 x5 (.int .i64 1)) fun v39_13 => (k1 (mslice E.P m 27 v37_12 (some v39_13) none none) fun v40_14 => (k2 (vcall E.P base m .append [27, 27] [v31_10, v40_14]) fun v41_15 m => (k2 (xbuildSlice E.P m 33 1 [(0, v41_15)]) fun v42_16 m => (k2 (vcall E.P base m .append [33, 33] [x6, v42_16]) fun v43_17 m => (k1 (mbin E .add 3 x7 (.int .i64 1)) fun v23_18 => (ih x0 x3 x4 x5 v43_17 v23_18 m))))))))))))) (kx2 x0 x3 x4 x5 x6 m))))) n
noncomputable def r52_L0 (call : CallF) (fuel base : Nat) (kx0 : Value → M → Res2) (n : Nat) : Value → Value → Value → Value → M → Res2 :=
  Nat.rec (motive := fun _ => Value → Value → Value → Value → M → Res2) (fun _ _ _ _ _ => none)
    (fun _ ih x0 x3 x4 x5 m =>
      (k2 (vcall E.P base m .len [33] [x0]) fun v14_3 m => (k1 (mbin E .lss 3 x5 v14_3) fun v15_4 => (kb v15_4 (r52_L2 call fuel base (fun y0_19 y3_20 y4_21 y5_22 y6_23 m => (k1 (mindexAddr E.P 33 y0_19 (.int .i64 0)) fun v47_24 => (k1 (xload E.P m 27 v47_24) fun v48_25 => (k1 (mindexAddr E.P 27 v48_25 y5_22) fun v50_26 => (k1 (xload E.P m 3 v50_26) fun v51_27 => (k1 (mbin E .mul 3 y4_21 v51_27) fun v52_28 => (kc (kB m (call m.length 52 [y6_23] m)) (fun v54_29 m => (k1 (mbin E .mul 3 v52_28 v54_29) fun v55_30 => (k1 (mbin E .add 3 y3_20 v55_30) fun v56_31 => (k1 (mun .neg y4_21) fun v58_32 => (k1 (mbin E .add 3 y5_22 (.int .i64 1)) fun v17_33 => (ih y0_19 v56_31 v58_32 v17_33 m)))))) (fun _ _ => none)))))))) fuel x0 x3 x4 x5 (.slice none 0 0) (.int .i64 1) m) (kx0 x3 m))))) n
noncomputable def r52 (call : CallF) (fuel base : Nat) (x0 : Value) (m : M) : Res2 :=
  (k2 (vcall E.P base m .len [33] [x0]) fun v10_1 m => (k1 (mbin E .eql 3 v10_1 (.int .i64 0)) fun v11_2 => (kb v11_2 (fVal (.int .i64 1) fun v => some (.ret v, m)) (r52_L0 call fuel base (fun y3_34 m => (fVal y3_34 fun v => some (.ret v, m))) fuel x0 (.int .i64 0) (.int .i64 1) (.int .i64 0) m))))
def keep52 : Keep := { region := fun i => ([[0], [0, 11], [2], [0, 3, 4], [0, 3, 4, 5], [0, 3, 4, 5, 15], [0, 3, 4, 5], [0, 3, 4, 5, 6], [0, 3, 4, 5, 6, 7], [0, 3, 4, 5, 6, 7, 21], [0, 3, 4, 5, 6, 7], [0, 3, 4, 5, 6, 7, 8], [0, 3, 4, 5, 6, 7, 8], [0, 3, 4, 5, 6, 7], [0, 3, 4, 5], [0, 3, 4, 5], [2]] : List (List Nat))[i]?, exit := fun i => ([[3], [0, 3, 4, 5], [0, 3, 4, 5, 6], [0, 3, 4, 5, 6, 7]] : List (List Nat))[i]?, ret := some [2] }
noncomputable def r52_L2_R (call : CallF) (fuel base n : Nat) (vs : List Value) (m : M) (K : KT) : Res2 := match vs with
  | [x0, x3, x4, x5, x6, x7] => r52_L2 call fuel base (fun y0 y3 y4 y5 y6 m => K (.exit 2) { n := 60, l := [(0, y0), (3, y3), (4, y4), (5, y5), (6, y6)] } m) n x0 x3 x4 x5 x6 x7 m
  | _ => none
noncomputable def r52_L0_R (call : CallF) (fuel base n : Nat) (vs : List Value) (m : M) (K : KT) : Res2 := match vs with
  | [x0, x3, x4, x5] => r52_L0 call fuel base (fun y3 m => K (.exit 0) { n := 60, l := [(3, y3)] } m) n x0 x3 x4 x5 m
  | _ => none
noncomputable def lp52 (call : CallF) (fuel base : Nat) : Lp := lpsel [(2, fun T m K => kslots 60 [0, 3, 4, 5, 6, 7] T fun vs => r52_L2_R call fuel base fuel vs m K), (0, fun T m K => kslots 60 [0, 3, 4, 5] T fun vs => r52_L0_R call fuel base fuel vs m K)]
noncomputable def c52 : Code := Try.f52.body.getD .skip
theorem r52_L2_lk (call : CallF) (fuel base : Nat) : LoopsOk E call (lp52 call fuel base) fuel base 2 (loopB (blockB (seqR (seqL (seqR (blockB (seqL (seqR (loopB (blockB (seqR (seqL (seqR (seqR (seqR c52))))))))))))))) = (And (And True (And True True)) (And (And True (And True True)) True)) := by kernel_rfl
theorem r52_L2_ok (call : CallF) (fuel base : Nat) : LpOk E call (lp52 call fuel base) fuel base 2 (loopB (blockB (seqR (seqL (seqR (blockB (seqL (seqR (loopB (blockB (seqR (seqL (seqR (seqR (seqR c52))))))))))))))) := by
  refine loop_ok (kp := keep52) (hb := Eq.mpr (r52_L2_lk call fuel base) (And.intro (And.intro trivial (And.intro trivial trivial)) (And.intro (And.intro trivial (And.intro trivial trivial)) trivial))) 60 [0, 3, 4, 5, 6, 7] (fun n vs m K => r52_L2_R call fuel base n vs m K) ?_ ?_ (fun _ _ _ => rfl)
  · intro vs m K
    unfold r52_L2_R
    split <;> rfl
  · intro n vs m K hl
    match vs, hl with
    | [x0, x3, x4, x5, x6, x7], _ => show _ = _; kernel_rfl
theorem r52_L0_lk (call : CallF) (fuel base : Nat) : LoopsOk E call (lp52 call fuel base) fuel base 0 (loopB (blockB (seqR (seqL (seqR (seqR (seqR c52))))))) = (And (And True (And True True)) (And (And True (And (And True (LpOk E call (lp52 call fuel base) fuel base 2 (loopB (blockB (seqR (seqL (seqR (blockB (seqL (seqR (loopB (blockB (seqR (seqL (seqR (seqR (seqR c52))))))))))))))))) (And True True))) True)) := by kernel_rfl
theorem r52_L0_ok (call : CallF) (fuel base : Nat) : LpOk E call (lp52 call fuel base) fuel base 0 (loopB (blockB (seqR (seqL (seqR (seqR (seqR c52))))))) := by
  refine loop_ok (kp := keep52) (hb := Eq.mpr (r52_L0_lk call fuel base) (And.intro (And.intro trivial (And.intro trivial trivial)) (And.intro (And.intro trivial (And.intro (And.intro trivial (r52_L2_ok call fuel base)) (And.intro trivial trivial))) trivial))) 60 [0, 3, 4, 5] (fun n vs m K => r52_L0_R call fuel base n vs m K) ?_ ?_ (fun _ _ _ => rfl)
  · intro vs m K
    unfold r52_L0_R
    split <;> rfl
  · intro n vs m K hl
    match vs, hl with
    | [x0, x3, x4, x5], _ => show _ = _; kernel_rfl
theorem r52_eq (call : CallF) (fuel base : Nat) (x0 : Value) (m : M) : kbody E call keep52 (lp52 call fuel base) base Try.f52 [x0] m = r52 call fuel base x0 m := by
  kernel_rfl
noncomputable def rf52 : RF := fun call fuel base args m => match args with
  | [x0] => r52 call fuel base x0 m
  | _ => none
theorem r52_lk (call : CallF) (fuel base : Nat) : LoopsOk E call (lp52 call fuel base) fuel base 0 c52 = (And True (And (And True (And (And True True) True)) (And True (And (And True (LpOk E call (lp52 call fuel base) fuel base 0 (loopB (blockB (seqR (seqL (seqR (seqR (seqR c52))))))))) (And True True))))) := by kernel_rfl
theorem r52_fn : E.P.funcs[52]? = some Try.f52 := by kernel_rfl
theorem r52_body : Try.f52.body = some c52 := by kernel_rfl
theorem rf52_ok : RFok E 52 rf52 := by
  show RFok' E 52 rf52
  refine ⟨Try.f52, r52_fn, fun call fuel base args m r _ h => ?_⟩
  unfold rf52 at h
  split at h
  · rw [← r52_eq] at h
    exact kbody_sound (c := c52) r52_body (Eq.mpr (r52_lk call fuel base) (And.intro trivial (And.intro (And.intro trivial (And.intro (And.intro trivial trivial) trivial)) (And.intro trivial (And.intro (And.intro trivial (r52_L0_ok call fuel base)) (And.intro trivial trivial)))))) h
  · simp at h
end Go.AM
namespace Go.AM
open Go Go.Proofs
noncomputable def r53_Y0 (call : CallF) (fuel base y : Nat) (x3 : Value) (x17 : Value) (m : M) : Res2 :=
  (k2 (xalloc E.P m 79) fun v4_16 m => (ks (xstore E.P base m 79 v4_16 x17) fun m => (ks (mbusy m y) fun m => (k1 (xload E.P m 27 x3) fun v18_17 => (k1 (xload E.P m 79 v4_16) fun v19_18 => (kc (kB m (call m.length 79 [v19_18] m)) (fun v20_19 m => (k1 (mindexAddr E.P 27 v18_17 v20_19) fun v21_20 => (k1 (xload E.P m 3 v21_20) fun v22_21 => (k1 (mbin E .add 3 v22_21 (.int .i64 1)) fun v23_22 => (k1 (mindexAddr E.P 27 v18_17 v20_19) fun v24_23 => (ks (xstore E.P base m 3 v24_23 v23_22) fun m => (mfin m y (some none)))))))) (fun _ _ => none)))))))
noncomputable def r53 (call : CallF) (fuel base : Nat) (x0 : Value) (m : M) : Res2 :=
  (k2 (xbox m x0) fun v1_1 m => (k1 (mfieldAddr E.P 23 v1_1 0) fun v5_2 => (k1 (xload E.P m 3 v5_2) fun v6_3 => (k1 (mfieldAddr E.P 23 v1_1 1) fun v7_4 => (k1 (xload E.P m 3 v7_4) fun v8_5 => (k1 (mbin E .mul 3 v6_3 v8_5) fun v9_6 => (k1 (mfieldAddr E.P 23 v1_1 2) fun v10_7 => (k1 (xload E.P m 3 v10_7) fun v11_8 => (k1 (mbin E .mul 3 v9_6 v11_8) fun v12_9 => (k1 (mbin E .add 3 v12_9 (.int .i64 1)) fun v13_10 => (k2 (xmakeSlice E.P m 27 v13_10 v13_10) fun v14_11 m => (k2 (xalloc E.P m 27) fun v3_12 m => (ks (xstore E.P base m 27 v3_12 v14_11) fun m => (k1 (xload E.P m 23 v1_1) fun v15_13 => (kc (call base 78 [v15_13] m) (fun v16_14 m => (kr (mrange call base v16_14 8205 { n := 26, l := [(3, v3_12)] } m) (fun m => (k1 (xload E.P m 27 v3_12) fun v25_15 => (fVal v25_15 fun v => some (.ret v, m)))) (fun _ => none) (kxs []))) (fun v m => some (.pan v, m)))))))))))))))))
def keep53 : Keep := { region := fun i => ([[1], [1, 3], [3, 16], [3, 4], [], [2]] : List (List Nat))[i]?, exit := fun i => ([[3], []] : List (List Nat))[i]?, ret := some [2] }
noncomputable def lp53 (call : CallF) (fuel base : Nat) : Lp := lpsel []
noncomputable def c53 : Code := Try.f53.body.getD .skip
theorem r53_eq (call : CallF) (fuel base : Nat) (x0 : Value) (m : M) : kbody E call keep53 (lp53 call fuel base) base Try.f53 [x0] m = r53 call fuel base x0 m := by
  kernel_rfl
noncomputable def rf53 : RF := fun call fuel base args m => match args with
  | [x0] => r53 call fuel base x0 m
  | _ => none
theorem r53_lk (call : CallF) (fuel base : Nat) : LoopsOk E call (lp53 call fuel base) fuel base 0 c53 = (And True (And True (And (And True True) (And True True)))) := by kernel_rfl
theorem r53_fn : E.P.funcs[53]? = some Try.f53 := by kernel_rfl
theorem r53_body : Try.f53.body = some c53 := by kernel_rfl
theorem rf53_ok : RFok E 53 rf53 := by
  show RFok' E 53 rf53
  refine ⟨Try.f53, r53_fn, fun call fuel base args m r _ h => ?_⟩
  unfold rf53 at h
  split at h
  · rw [← r53_eq] at h
    exact kbody_sound (c := c53) r53_body (Eq.mpr (r53_lk call fuel base) (And.intro trivial (And.intro trivial (And.intro (And.intro trivial trivial) (And.intro trivial trivial))))) h
  · simp at h
noncomputable def site53_0 : Site := ⟨8205, [17], rangeA (blockB (seqR (seqL (seqR (seqR c53))))), rangeB (blockB (seqR (seqL (seqR (seqR c53)))))⟩
theorem site53_0_g : gsite 8205 = some site53_0 := by kernel_rfl
theorem r53_Y0_eq (call : CallF) (fuel base y : Nat) (x3 : Value) (x17 : Value) (m : M) : kround E call keep53 (lp53 call fuel base) base y site53_0 { n := 26, l := [(3, x3)] } [x17] m = r53_Y0 call fuel base y x3 x17 m := by
  kernel_rfl
noncomputable def r53_Y0_R (call : CallF) (fuel base y : Nat) (xs vs : List Value) (m : M) : Res2 := match xs, vs with
  | [x3], [x17] => r53_Y0 call fuel base y x3 x17 m
  | _, _ => none
noncomputable def y53_0 : RYs := fun call fuel base y T vs m => kslots 26 [3] T fun xs => r53_Y0_R call fuel base y xs vs m
theorem r53_Y0_lA (call : CallF) (fuel base : Nat) : LoopsOk E call (lp53 call fuel base) fuel base 0 site53_0.assign = True := by kernel_rfl
theorem r53_Y0_lB (call : CallF) (fuel base : Nat) : LoopsOk E call (lp53 call fuel base) fuel base 0 site53_0.body = True := by kernel_rfl
theorem y53_0_ok : RYsOk E 8205 y53_0 := by
  intro call fuel base y T vs m r lr hC hby hm hst hk hT h
  unfold y53_0 at h
  obtain ⟨xs, hl, hsub, h⟩ := kslots_some h
  unfold r53_Y0_R at h
  split at h
  · rw [← r53_Y0_eq] at h
    exact kround_sound (Eq.mpr (r53_Y0_lA call fuel base) trivial) (Eq.mpr (r53_Y0_lB call fuel base) trivial) hby hm hst (by rw [hk]; exact site53_0_g) rfl (hT ▸ hsub) h
  · simp at h
end Go.AM
namespace Go.AM
open Go Go.Proofs
noncomputable def r55_L2 (call : CallF) (fuel base : Nat) (kp : Value → M → Res2) (kr : Value → Value → M → Res2) (kx2 : Value → Value → Value → Value → Value → Value → M → Res2) (n : Nat) : Value → Value → Value → Value → Value → Value → Value → Value → Value → Value → M → Res2 :=
  Nat.rec (motive := fun _ => Value → Value → Value → Value → Value → Value → Value → Value → Value → Value → M → Res2) (fun _ _ _ _ _ _ _ _ _ _ _ => none)
    (fun _ ih x2 x4 x6 x7 x19 x20 x21 x32 x33 x34 m =>
      (k1 (mbin E .lss 3 x34 x33) fun v35_22 => (kb v35_22 (k1 (mindexAddr E.P 27 x32 x34) fun v37_23 => (k1 (xload E.P m 3 v37_23) fun v38_24 => (k1 (mbin E .lss 3 v38_24 (.int .i64 0)) fun v40_25 => (kb v40_25 (k1 (mbuild E.P 79 []) fun v49_26 => (ks (xstore E.P base m 79 x4 v49_26) fun m => (kr x4 (.bool false) m))) (k1 (xload E.P m 79 x6) fun v43_27 => (kc (call base 80 [v43_27, x7, x34] m) (fun v46_28 m => (k1 (mbin E .gtr 3 v38_24 v46_28) fun v47_29 => (kb v47_29 (k1 (mbuild E.P 79 []) fun v49_30 => (ks (xstore E.P base m 79 x4 v49_30) fun m => (kr x4 (.bool false) m))) (k1 (mfieldAddr E.P 79 x6 1) fun v53_31 => (k1 (mindexAddr E.P 77 v53_31 x7) fun v54_32 => (k1 (mindexAddr E.P 76 v54_32 x34) fun v55_33 => (ks (xstore E.P base m 3 v55_33 v38_24) fun m => (k1 (mbin E .add 3 x34 (.int .i64 1)) fun v56_34 => (ih x2 x4 x6 x7 x19 x20 x21 x32 x33 v56_34 m))))))))) (fun v m => kp v m))))))) (kx2 x2 x4 x6 x19 x20 x21 m)))) n
noncomputable def r55_L0 (call : CallF) (fuel base : Nat) (kp : Value → M → Res2) (kr : Value → Value → M → Res2) (kx0 : Value → Value → M → Res2) (n : Nat) : Value → Value → Value → Value → Value → Value → M → Res2 :=
  Nat.rec (motive := fun _ => Value → Value → Value → Value → Value → Value → M → Res2) (fun _ _ _ _ _ _ _ => none)
    (fun _ ih x2 x4 x6 x19 x20 x21 m =>
      (k1 (mbin E .lss 3 x21 x20) fun v22_13 => (kb v22_13 (k1 (mindexAddr E.P 33 x19 x21) fun v24_14 => (k1 (xload E.P m 27 v24_14) fun v25_15 => (k2 (vcall E.P base m .len [27] [v25_15]) fun v27_16 m => (k1 (mfieldAddr E.P 23 x2 1) fun v28_17 => (k1 (xload E.P m 3 v28_17) fun v29_18 => (k1 (mbin E .neq 3 v27_16 v29_18) fun v30_19 => (kb v30_19 (k1 (mbuild E.P 79 []) fun v31_20 => (ks (xstore E.P base m 79 x4 v31_20) fun m => (kr x4 (.bool false) m))) (k2 (vcall E.P base m .len [27] [v25_15]) fun v33_21 m => (r55_L2 call fuel base (fun v m => kp v m) (fun y4_35 y5_36 m => (kr y4_35 y5_36 m)) (fun y2_37 y4_38 y6_39 y19_40 y20_41 y21_42 m => (k1 (mbin E .add 3 y21_42 (.int .i64 1)) fun v57_43 => (ih y2_37 y4_38 y6_39 y19_40 y20_41 v57_43 m))) fuel x2 x4 x6 x21 x19 x20 x21 v25_15 v33_21 (.int .i64 0) m))))))))) (kx0 x4 x6 m)))) n
noncomputable def r55 (call : CallF) (fuel base : Nat) (x0 : Value) (x1 : Value) (m : M) : Res2 :=
  (k2 (xbox m x0) fun v2_1 m => (k2 (xalloc E.P m 79) fun v4_2 m => (k2 (vcall E.P base m .len [33] [x1]) fun v12_3 m => (k1 (mfieldAddr E.P 23 v2_1 0) fun v13_4 => (k1 (xload E.P m 3 v13_4) fun v14_5 => (k1 (mbin E .neq 3 v12_3 v14_5) fun v15_6 => (kb v15_6 (k1 (mbuild E.P 79 []) fun v16_7 => (ks (xstore E.P base m 79 v4_2 v16_7) fun m => (k0 (mload E.P m 79 v4_2) fun r_8 => (some (.ret (.tuple #[r_8, (.bool false)]), m))))) (k1 (xload E.P m 23 v2_1) fun v17_9 => (k1 (mbuild E.P 79 [(0, v17_9)]) fun v18_10 => (k2 (xalloc E.P m 79) fun v6_11 m => (ks (xstore E.P base m 79 v6_11 v18_10) fun m => (k2 (vcall E.P base m .len [33] [x1]) fun v20_12 m => (r55_L0 call fuel base (fun v m => some (.pan v, m)) (fun y4_44 y5_45 m => (k0 (mload E.P m 79 y4_44) fun r_46 => (some (.ret (.tuple #[r_46, y5_45]), m)))) (fun y4_47 y6_48 m => (k1 (xload E.P m 79 y6_48) fun v58_49 => (ks (xstore E.P base m 79 y4_47 v58_49) fun m => (k0 (mload E.P m 79 y4_47) fun r_50 => (some (.ret (.tuple #[r_50, (.bool true)]), m)))))) fuel v2_1 v4_2 v6_11 x1 v20_12 (.int .i64 0) m)))))))))))))
def keep55 : Keep := { region := fun i => ([[1, 2, 4], [1, 2, 4, 15], [4, 5], [1, 2, 4, 6], [2, 4, 6, 19, 20, 21], [2, 4, 6, 19, 20, 21, 22], [2, 4, 6, 7, 8, 19, 20, 21], [2, 4, 6, 7, 8, 19, 20, 21, 30], [4, 5], [2, 4, 6, 7, 19, 20, 21, 32, 33, 34], [2, 4, 6, 7, 19, 20, 21, 32, 33, 34, 35], [2, 4, 6, 7, 9, 10, 19, 20, 21, 32, 33, 34], [2, 4, 6, 7, 9, 10, 19, 20, 21, 32, 33, 34, 48], [4, 5], [2, 4, 6, 7, 19, 20, 21, 32, 33, 34], [2, 4, 6, 7, 19, 20, 21, 32, 33, 34], [2, 4, 6, 19, 20, 21], [4, 5]] : List (List Nat))[i]?, exit := fun i => ([[4, 6], [2, 4, 6, 19, 20, 21], [2, 4, 6, 19, 20, 21], [2, 4, 6, 7, 19, 20, 21, 32, 33, 34]] : List (List Nat))[i]?, ret := some [4, 5] }
noncomputable def r55_L2_R (call : CallF) (fuel base n : Nat) (vs : List Value) (m : M) (K : KT) : Res2 := match vs with
  | [x2, x4, x6, x7, x19, x20, x21, x32, x33, x34] => r55_L2 call fuel base (fun v m => K (.pan v) { n := 59, l := [] } m) (fun y4 y5 m => K .ret { n := 59, l := [(4, y4), (5, y5)] } m) (fun y2 y4 y6 y19 y20 y21 m => K (.exit 2) { n := 59, l := [(2, y2), (4, y4), (6, y6), (19, y19), (20, y20), (21, y21)] } m) n x2 x4 x6 x7 x19 x20 x21 x32 x33 x34 m
  | _ => none
noncomputable def r55_L0_R (call : CallF) (fuel base n : Nat) (vs : List Value) (m : M) (K : KT) : Res2 := match vs with
  | [x2, x4, x6, x19, x20, x21] => r55_L0 call fuel base (fun v m => K (.pan v) { n := 59, l := [] } m) (fun y4 y5 m => K .ret { n := 59, l := [(4, y4), (5, y5)] } m) (fun y4 y6 m => K (.exit 0) { n := 59, l := [(4, y4), (6, y6)] } m) n x2 x4 x6 x19 x20 x21 m
  | _ => none
noncomputable def lp55 (call : CallF) (fuel base : Nat) : Lp := lpsel [(2, fun T m K => kslots 59 [2, 4, 6, 7, 19, 20, 21, 32, 33, 34] T fun vs => r55_L2_R call fuel base fuel vs m K), (0, fun T m K => kslots 59 [2, 4, 6, 19, 20, 21] T fun vs => r55_L0_R call fuel base fuel vs m K)]
noncomputable def c55 : Code := Try.f55.body.getD .skip
theorem r55_L2_lk (call : CallF) (fuel base : Nat) : LoopsOk E call (lp55 call fuel base) fuel base 2 (loopB (blockB (seqR (seqR (seqR (blockB (seqL (seqR (seqR (loopB (blockB (seqR (seqL (seqR (seqR (seqR c55)))))))))))))))) = (And True (And (And True True) (And (And True (And (And True (And (And True True) True)) True)) True))) := by kernel_rfl
theorem r55_L2_ok (call : CallF) (fuel base : Nat) : LpOk E call (lp55 call fuel base) fuel base 2 (loopB (blockB (seqR (seqR (seqR (blockB (seqL (seqR (seqR (loopB (blockB (seqR (seqL (seqR (seqR (seqR c55)))))))))))))))) := by
  refine loop_ok (kp := keep55) (hb := Eq.mpr (r55_L2_lk call fuel base) (And.intro trivial (And.intro (And.intro trivial trivial) (And.intro (And.intro trivial (And.intro (And.intro trivial (And.intro (And.intro trivial trivial) trivial)) trivial)) trivial)))) 59 [2, 4, 6, 7, 19, 20, 21, 32, 33, 34] (fun n vs m K => r55_L2_R call fuel base n vs m K) ?_ ?_ (fun _ _ _ => rfl)
  · intro vs m K
    unfold r55_L2_R
    split <;> rfl
  · intro n vs m K hl
    match vs, hl with
    | [x2, x4, x6, x7, x19, x20, x21, x32, x33, x34], _ => show _ = _; kernel_rfl
theorem r55_L0_lk (call : CallF) (fuel base : Nat) : LoopsOk E call (lp55 call fuel base) fuel base 0 (loopB (blockB (seqR (seqL (seqR (seqR (seqR c55))))))) = (And True (And (And True True) (And (And True (And (And True (And (And True True) True)) (And True (LpOk E call (lp55 call fuel base) fuel base 2 (loopB (blockB (seqR (seqR (seqR (blockB (seqL (seqR (seqR (loopB (blockB (seqR (seqL (seqR (seqR (seqR c55)))))))))))))))))))) True))) := by kernel_rfl
theorem r55_L0_ok (call : CallF) (fuel base : Nat) : LpOk E call (lp55 call fuel base) fuel base 0 (loopB (blockB (seqR (seqL (seqR (seqR (seqR c55))))))) := by
  refine loop_ok (kp := keep55) (hb := Eq.mpr (r55_L0_lk call fuel base) (And.intro trivial (And.intro (And.intro trivial trivial) (And.intro (And.intro trivial (And.intro (And.intro trivial (And.intro (And.intro trivial trivial) trivial)) (And.intro trivial (r55_L2_ok call fuel base)))) trivial)))) 59 [2, 4, 6, 19, 20, 21] (fun n vs m K => r55_L0_R call fuel base n vs m K) ?_ ?_ (fun _ _ _ => rfl)
  · intro vs m K
    unfold r55_L0_R
    split <;> rfl
  · intro n vs m K hl
    match vs, hl with
    | [x2, x4, x6, x19, x20, x21], _ => show _ = _; kernel_rfl
theorem r55_eq (call : CallF) (fuel base : Nat) (x0 : Value) (x1 : Value) (m : M) : kbody E call keep55 (lp55 call fuel base) base Try.f55 [x0, x1] m = r55 call fuel base x0 x1 m := by
  kernel_rfl
noncomputable def rf55 : RF := fun call fuel base args m => match args with
  | [x0, x1] => r55 call fuel base x0 x1 m
  | _ => none
theorem r55_lk (call : CallF) (fuel base : Nat) : LoopsOk E call (lp55 call fuel base) fuel base 0 c55 = (And True (And (And True (And (And True True) True)) (And True (And (And True (LpOk E call (lp55 call fuel base) fuel base 0 (loopB (blockB (seqR (seqL (seqR (seqR (seqR c55))))))))) (And True True))))) := by kernel_rfl
theorem r55_fn : E.P.funcs[55]? = some Try.f55 := by kernel_rfl
theorem r55_body : Try.f55.body = some c55 := by kernel_rfl
theorem rf55_ok : RFok E 55 rf55 := by
  show RFok' E 55 rf55
  refine ⟨Try.f55, r55_fn, fun call fuel base args m r _ h => ?_⟩
  unfold rf55 at h
  split at h
  · rw [← r55_eq] at h
    exact kbody_sound (c := c55) r55_body (Eq.mpr (r55_lk call fuel base) (And.intro trivial (And.intro (And.intro trivial (And.intro (And.intro trivial trivial) trivial)) (And.intro trivial (And.intro (And.intro trivial (r55_L0_ok call fuel base)) (And.intro trivial trivial)))))) h
  · simp at h
end Go.AM
namespace Go.AM
open Go Go.Proofs
noncomputable def r56 (call : CallF) (fuel base : Nat) (x0 : Value) (x1 : Value) (m : M) : Res2 :=
  (k2 (xbox m x0) fun v2_1 m => (k2 (xalloc E.P m 79) fun v4_2 m => (k1 (xload E.P m 23 v2_1) fun v8_3 => (kc (call base 47 [v8_3] m) (fun v9_4 m => (k1 (mun .not v9_4) fun v10_5 => (kb v10_5 (k1 (mbuild E.P 79 []) fun v11_6 => (ks (xstore E.P base m 79 v4_2 v11_6) fun m => (k0 (mload E.P m 79 v4_2) fun r_7 => (some (.ret (.tuple #[r_7, (.int .i64 2)]), m))))) (k1 (xload E.P m 23 v2_1) fun v13_8 => (kc (call base 55 [v13_8, x1] m) (fun v15_9 m => (k1 (mextract 0 v15_9) fun v16_10 => (k1 (mextract 1 v15_9) fun v17_11 => (k2 (xalloc E.P m 79) fun v6_12 m => (ks (xstore E.P base m 79 v6_12 v16_10) fun m => (k1 (mun .not v17_11) fun v19_13 => (kb v19_13 (k1 (mbuild E.P 79 []) fun v20_14 => (ks (xstore E.P base m 79 v4_2 v20_14) fun m => (k0 (mload E.P m 79 v4_2) fun r_15 => (some (.ret (.tuple #[r_15, (.int .i64 2)]), m))))) (k1 (xload E.P m 79 v6_12) fun v21_16 => (ks (xstore E.P base m 79 v4_2 v21_16) fun m => (k0 (mload E.P m 79 v4_2) fun r_17 => (some (.ret (.tuple #[r_17, (.int .i64 0)]), m)))))))))))) (fun v m => some (.pan v, m))))))) (fun v m => some (.pan v, m))))))
def keep56 : Keep := { region := fun i => ([[1, 2, 4], [1, 2, 4, 10], [4, 5], [4, 6, 7], [4, 6, 19], [4, 5], [4, 5]] : List (List Nat))[i]?, exit := fun i => ([] : List (List Nat))[i]?, ret := some [4, 5] }
noncomputable def lp56 (call : CallF) (fuel base : Nat) : Lp := lpsel []
noncomputable def c56 : Code := Try.f56.body.getD .skip
theorem r56_eq (call : CallF) (fuel base : Nat) (x0 : Value) (x1 : Value) (m : M) : kbody E call keep56 (lp56 call fuel base) base Try.f56 [x0, x1] m = r56 call fuel base x0 x1 m := by
  kernel_rfl
noncomputable def rf56 : RF := fun call fuel base args m => match args with
  | [x0, x1] => r56 call fuel base x0 x1 m
  | _ => none
theorem r56_lk (call : CallF) (fuel base : Nat) : LoopsOk E call (lp56 call fuel base) fuel base 0 c56 = (And True (And (And True (And (And True True) True)) (And True (And (And True (And (And True True) True)) (And True True))))) := by kernel_rfl
theorem r56_fn : E.P.funcs[56]? = some Try.f56 := by kernel_rfl
theorem r56_body : Try.f56.body = some c56 := by kernel_rfl
theorem rf56_ok : RFok E 56 rf56 := by
  show RFok' E 56 rf56
  refine ⟨Try.f56, r56_fn, fun call fuel base args m r _ h => ?_⟩
  unfold rf56 at h
  split at h
  · rw [← r56_eq] at h
    exact kbody_sound (c := c56) r56_body (Eq.mpr (r56_lk call fuel base) (And.intro trivial (And.intro (And.intro trivial (And.intro (And.intro trivial trivial) trivial)) (And.intro trivial (And.intro (And.intro trivial (And.intro (And.intro trivial trivial) trivial)) (And.intro trivial trivial)))))) h
  · simp at h
end Go.AM
namespace Go.AM
open Go Go.Proofs
noncomputable def r57_L0 (call : CallF) (fuel base : Nat) (kp : Value → M → Res2) (kx0 : Value → M → Res2) (n : Nat) : Value → Value → Value → Value → Value → Value → Value → M → Res2 :=
  Nat.rec (motive := fun _ => Value → Value → Value → Value → Value → Value → Value → M → Res2) (fun _ _ _ _ _ _ _ _ => none)
    (fun _ ih x1 x3 x4 x5 x19 x20 x21 m =>
      (k1 (mbin E .lss 3 x21 x20) fun v22_16 => (kb v22_16 (k1 (mindexAddr E.P 104 x19 x21) fun v24_17 => (k1 (xload E.P m 76 v24_17) fun v25_18 => (k2 (xalloc E.P m 76) fun v7_19 m => (ks (xstore E.P base m 76 v7_19 v25_18) fun m => (k1 (xload E.P m 106 x3) fun v26_20 => (k1 (xload E.P m 76 x5) fun v27_21 => (k1 (mfieldAddr E.P 79 x1 0) fun v28_22 => (k1 (mfieldAddr E.P 23 v28_22 0) fun v29_23 => (k1 (xload E.P m 3 v29_23) fun v30_24 => (k1 (mbin E .sub 3 v30_24 (.int .i64 1)) fun v31_25 => (k1 (mbin E .sub 3 v31_25 x21) fun v33_26 => (kc (call base 83 [v26_20, v27_21, v33_26] m) (fun v34_27 m => (kr (mrange call base v34_27 968610 { n := 46, l := [(4, x4), (7, v7_19)] } m) (fun m => (k1 (xload E.P m 76 v7_19) fun v43_30 => (ks (xstore E.P base m 76 x5 v43_30) fun m => (k1 (mbin E .add 3 x21 (.int .i64 1)) fun v44_31 => (ih x1 x3 x4 x5 x19 x20 v44_31 m))))) (fun _ => none) (kxs [(2, fun m => (k1 (xload E.P m 76 v7_19) fun v43_28 => (ks (xstore E.P base m 76 x5 v43_28) fun m => (k1 (mbin E .add 3 x21 (.int .i64 1)) fun v44_29 => (ih x1 x3 x4 x5 x19 x20 v44_29 m)))))]))) (fun v m => kp v m))))))))))))) (kx0 x4 m)))) n
noncomputable def r57_Y0 (call : CallF) (fuel base y : Nat) (x4 : Value) (x7 : Value) (x35 : Value) (x36 : Value) (m : M) : Res2 :=
  (k2 (xalloc E.P m 76) fun v8_34 m => (ks (xstore E.P base m 76 v8_34 x35) fun m => (ks (mbusy m y) fun m => (k1 (xload E.P m 76 v8_34) fun v37_35 => (k1 (xload E.P m 76 x7) fun v38_36 => (k1 (mbin E .eql 76 v37_35 v38_36) fun v39_37 => (kb v39_37 (mfin m y (some (some (.exit 2)))) (k1 (xload E.P m 3 x4) fun v40_38 => (k1 (mbin E .add 3 v40_38 x36) fun v42_39 => (ks (xstore E.P base m 3 x4 v42_39) fun m => (mfin m y (some none))))))))))))
noncomputable def r57 (call : CallF) (fuel base : Nat) (x0 : Value) (m : M) : Res2 :=
  (k2 (xbox m x0) fun v1_1 m => (k1 (mfieldAddr E.P 79 v1_1 0) fun v10_2 => (k1 (xload E.P m 23 v10_2) fun v11_3 => (kc (call base 81 [v11_3] m) (fun v12_4 m => (k2 (xalloc E.P m 106) fun v3_5 m => (ks (xstore E.P base m 106 v3_5 v12_4) fun m => (k1 (xload E.P m 106 v3_5) fun v13_6 => (kc (call base 82 [v13_6] m) (fun v14_7 m => (k2 (xalloc E.P m 3) fun v4_8 m => (k2 (xalloc E.P m 76) fun v5_9 m => (ks (xstore E.P base m 3 v4_8 (.int .i64 0)) fun m => (ks (xstore E.P base m 76 v5_9 v14_7) fun m => (k1 (mfieldAddr E.P 79 v1_1 1) fun v15_10 => (k1 (mfieldAddr E.P 79 v1_1 0) fun v16_11 => (k1 (mfieldAddr E.P 23 v16_11 0) fun v17_12 => (k1 (xload E.P m 3 v17_12) fun v18_13 => (k1 (mslice E.P m 77 v15_10 none (some v18_13) none) fun v19_14 => (k2 (vcall E.P base m .len [104] [v19_14]) fun v20_15 m => (r57_L0 call fuel base (fun v m => some (.pan v, m)) (fun y4_32 m => (k1 (xload E.P m 3 y4_32) fun v45_33 => (fVal v45_33 fun v => some (.ret v, m)))) fuel v1_1 v3_5 v4_8 v5_9 v19_14 v20_15 (.int .i64 0) m)))))))))))) (fun v m => some (.pan v, m))))))) (fun v m => some (.pan v, m))))))
def keep57 : Keep := { region := fun i => ([[1], [1, 3], [1, 3, 4, 5], [1, 3, 4, 5, 19, 20, 21], [1, 3, 4, 5, 19, 20, 21, 22], [1, 3, 4, 5, 6, 7, 19, 20, 21], [1, 3, 4, 5, 7, 19, 20, 21, 34], [4, 7, 8, 36], [4, 7, 8, 9], [4, 9, 39], [], [1, 3, 4, 5, 19, 20, 21], [1, 3, 4, 5, 19, 20, 21], [2]] : List (List Nat))[i]?, exit := fun i => ([[4], [1, 3, 4, 5, 19, 20, 21], [1, 3, 4, 5, 7, 19, 20, 21], []] : List (List Nat))[i]?, ret := some [2] }
noncomputable def r57_L0_R (call : CallF) (fuel base n : Nat) (vs : List Value) (m : M) (K : KT) : Res2 := match vs with
  | [x1, x3, x4, x5, x19, x20, x21] => r57_L0 call fuel base (fun v m => K (.pan v) { n := 46, l := [] } m) (fun y4 m => K (.exit 0) { n := 46, l := [(4, y4)] } m) n x1 x3 x4 x5 x19 x20 x21 m
  | _ => none
noncomputable def lp57 (call : CallF) (fuel base : Nat) : Lp := lpsel [(0, fun T m K => kslots 46 [1, 3, 4, 5, 19, 20, 21] T fun vs => r57_L0_R call fuel base fuel vs m K)]
noncomputable def c57 : Code := Try.f57.body.getD .skip
theorem r57_L0_lk (call : CallF) (fuel base : Nat) : LoopsOk E call (lp57 call fuel base) fuel base 0 (loopB (blockB (seqR (seqL (seqR (seqR (seqR c57))))))) = (And True (And (And True True) (And (And True (And (And True True) True)) True))) := by kernel_rfl
theorem r57_L0_ok (call : CallF) (fuel base : Nat) : LpOk E call (lp57 call fuel base) fuel base 0 (loopB (blockB (seqR (seqL (seqR (seqR (seqR c57))))))) := by
  refine loop_ok (kp := keep57) (hb := Eq.mpr (r57_L0_lk call fuel base) (And.intro trivial (And.intro (And.intro trivial trivial) (And.intro (And.intro trivial (And.intro (And.intro trivial trivial) trivial)) trivial)))) 46 [1, 3, 4, 5, 19, 20, 21] (fun n vs m K => r57_L0_R call fuel base n vs m K) ?_ ?_ (fun _ _ _ => rfl)
  · intro vs m K
    unfold r57_L0_R
    split <;> rfl
  · intro n vs m K hl
    match vs, hl with
    | [x1, x3, x4, x5, x19, x20, x21], _ => show _ = _; kernel_rfl
theorem r57_eq (call : CallF) (fuel base : Nat) (x0 : Value) (m : M) : kbody E call keep57 (lp57 call fuel base) base Try.f57 [x0] m = r57 call fuel base x0 m := by
  kernel_rfl
noncomputable def rf57 : RF := fun call fuel base args m => match args with
  | [x0] => r57 call fuel base x0 m
  | _ => none
theorem r57_lk (call : CallF) (fuel base : Nat) : LoopsOk E call (lp57 call fuel base) fuel base 0 c57 = (And True (And True (And True (And (And True (LpOk E call (lp57 call fuel base) fuel base 0 (loopB (blockB (seqR (seqL (seqR (seqR (seqR c57))))))))) (And True True))))) := by kernel_rfl
theorem r57_fn : E.P.funcs[57]? = some Try.f57 := by kernel_rfl
theorem r57_body : Try.f57.body = some c57 := by kernel_rfl
theorem rf57_ok : RFok E 57 rf57 := by
  show RFok' E 57 rf57
  refine ⟨Try.f57, r57_fn, fun call fuel base args m r _ h => ?_⟩
  unfold rf57 at h
  split at h
  · rw [← r57_eq] at h
    exact kbody_sound (c := c57) r57_body (Eq.mpr (r57_lk call fuel base) (And.intro trivial (And.intro trivial (And.intro trivial (And.intro (And.intro trivial (r57_L0_ok call fuel base)) (And.intro trivial trivial)))))) h
  · simp at h
noncomputable def site57_0 : Site := ⟨968610, [35, 36], rangeA (blockB (seqR (seqL (seqR (blockB (seqL (seqR (seqR (loopB (blockB (seqR (seqL (seqR (seqR (seqR c57))))))))))))))), rangeB (blockB (seqR (seqL (seqR (blockB (seqL (seqR (seqR (loopB (blockB (seqR (seqL (seqR (seqR (seqR c57)))))))))))))))⟩
theorem site57_0_g : gsite 968610 = some site57_0 := by kernel_rfl
theorem r57_Y0_eq (call : CallF) (fuel base y : Nat) (x4 : Value) (x7 : Value) (x35 : Value) (x36 : Value) (m : M) : kround E call keep57 (lp57 call fuel base) base y site57_0 { n := 46, l := [(4, x4), (7, x7)] } [x35, x36] m = r57_Y0 call fuel base y x4 x7 x35 x36 m := by
  kernel_rfl
noncomputable def r57_Y0_R (call : CallF) (fuel base y : Nat) (xs vs : List Value) (m : M) : Res2 := match xs, vs with
  | [x4, x7], [x35, x36] => r57_Y0 call fuel base y x4 x7 x35 x36 m
  | _, _ => none
noncomputable def y57_0 : RYs := fun call fuel base y T vs m => kslots 46 [4, 7] T fun xs => r57_Y0_R call fuel base y xs vs m
theorem r57_Y0_lA (call : CallF) (fuel base : Nat) : LoopsOk E call (lp57 call fuel base) fuel base 0 site57_0.assign = (And True True) := by kernel_rfl
theorem r57_Y0_lB (call : CallF) (fuel base : Nat) : LoopsOk E call (lp57 call fuel base) fuel base 0 site57_0.body = (And (And True (And True True)) True) := by kernel_rfl
theorem y57_0_ok : RYsOk E 968610 y57_0 := by
  intro call fuel base y T vs m r lr hC hby hm hst hk hT h
  unfold y57_0 at h
  obtain ⟨xs, hl, hsub, h⟩ := kslots_some h
  unfold r57_Y0_R at h
  split at h
  · rw [← r57_Y0_eq] at h
    exact kround_sound (Eq.mpr (r57_Y0_lA call fuel base) (And.intro trivial trivial)) (Eq.mpr (r57_Y0_lB call fuel base) (And.intro (And.intro trivial (And.intro trivial trivial)) trivial)) hby hm hst (by rw [hk]; exact site57_0_g) rfl (hT ▸ hsub) h
  · simp at h
end Go.AM
namespace Go.AM
open Go Go.Proofs
noncomputable def r75 (call : CallF) (fuel base : Nat) (x0 : Value) (m : M) : Res2 :=
  (k1 (mbin E .leq 3 (.int .i64 1) x0) fun v4_1 => (kb v4_1 (k1 (mbin E .leq 3 x0 (.int .i64 4)) fun v7_2 => (fVal v7_2 fun v => some (.ret v, m))) (fVal (.bool false) fun v => some (.ret v, m))))
def keep75 : Keep := { region := fun i => ([[0], [2]] : List (List Nat))[i]?, exit := fun i => ([] : List (List Nat))[i]?, ret := some [2] }
noncomputable def lp75 (call : CallF) (fuel base : Nat) : Lp := lpsel []
noncomputable def c75 : Code := Try.f75.body.getD .skip
theorem r75_eq (call : CallF) (fuel base : Nat) (x0 : Value) (m : M) : kbody E call keep75 (lp75 call fuel base) base Try.f75 [x0] m = r75 call fuel base x0 m := by
  kernel_rfl
noncomputable def rf75 : RF := fun call fuel base args m => match args with
  | [x0] => r75 call fuel base x0 m
  | _ => none
theorem r75_lk (call : CallF) (fuel base : Nat) : LoopsOk E call (lp75 call fuel base) fuel base 0 c75 = (And True (And True True)) := by kernel_rfl
theorem r75_fn : E.P.funcs[75]? = some Try.f75 := by kernel_rfl
theorem r75_body : Try.f75.body = some c75 := by kernel_rfl
theorem rf75_ok : RFok E 75 rf75 := by
  show RFok' E 75 rf75
  refine ⟨Try.f75, r75_fn, fun call fuel base args m r _ h => ?_⟩
  unfold rf75 at h
  split at h
  · rw [← r75_eq] at h
    exact kbody_sound (c := c75) r75_body (Eq.mpr (r75_lk call fuel base) (And.intro trivial (And.intro trivial trivial))) h
  · simp at h
end Go.AM
namespace Go.AM
open Go Go.Proofs
noncomputable def r76_L0 (call : CallF) (fuel base : Nat) (kx0 : Value → M → Res2) (n : Nat) : Value → Value → Value → Value → M → Res2 :=
  Nat.rec (motive := fun _ => Value → Value → Value → Value → M → Res2) (fun _ _ _ _ _ => none)
    (fun _ ih x0 x5 x14 x15 m =>
      (k1 (mbin E .lss 3 x15 x14) fun v16_3 => (kb v16_3 (k1 (mbin E .sub 3 x0 x15) fun v21_4 => (k1 (mbin E .mul 3 x5 v21_4) fun v22_5 => (k1 (mbin E .add 3 x15 (.int .i64 1)) fun v24_6 => (k1 (mbin E .quo 3 v22_5 v24_6) fun v25_7 => (k1 (mbin E .add 3 x15 (.int .i64 1)) fun v26_8 => (ih x0 v25_7 x14 v26_8 m)))))) (kx0 x5 m)))) n
noncomputable def r76 (call : CallF) (fuel base : Nat) (x0 : Value) (x1 : Value) (m : M) : Res2 :=
  (k1 (mbin E .lss 3 x1 (.int .i64 0)) fun v8_1 => (kb v8_1 (fVal (.int .i64 0) fun v => some (.ret v, m)) (k1 (mbin E .gtr 3 x1 x0) fun v12_2 => (kb v12_2 (fVal (.int .i64 0) fun v => some (.ret v, m)) (r76_L0 call fuel base (fun y5_9 m => (fVal y5_9 fun v => some (.ret v, m))) fuel x0 (.int .i64 1) x1 (.int .i64 0) m)))))
def keep76 : Keep := { region := fun i => ([[0, 1], [0, 1, 13], [4], [0, 1, 5], [0, 5, 14, 15], [0, 5, 14, 15, 16], [0, 5, 6, 14, 15], [0, 5, 14, 15], [0, 5, 14, 15], [4]] : List (List Nat))[i]?, exit := fun i => ([[5], [0, 5, 14, 15]] : List (List Nat))[i]?, ret := some [4] }
noncomputable def r76_L0_R (call : CallF) (fuel base n : Nat) (vs : List Value) (m : M) (K : KT) : Res2 := match vs with
  | [x0, x5, x14, x15] => r76_L0 call fuel base (fun y5 m => K (.exit 0) { n := 28, l := [(5, y5)] } m) n x0 x5 x14 x15 m
  | _ => none
noncomputable def lp76 (call : CallF) (fuel base : Nat) : Lp := lpsel [(0, fun T m K => kslots 28 [0, 5, 14, 15] T fun vs => r76_L0_R call fuel base fuel vs m K)]
noncomputable def c76 : Code := Try.f76.body.getD .skip
theorem r76_L0_lk (call : CallF) (fuel base : Nat) : LoopsOk E call (lp76 call fuel base) fuel base 0 (loopB (blockB (seqR (seqL (seqR (seqR (seqR c76))))))) = (And True (And (And True True) (And (And True True) True))) := by kernel_rfl
theorem r76_L0_ok (call : CallF) (fuel base : Nat) : LpOk E call (lp76 call fuel base) fuel base 0 (loopB (blockB (seqR (seqL (seqR (seqR (seqR c76))))))) := by
  refine loop_ok (kp := keep76) (hb := Eq.mpr (r76_L0_lk call fuel base) (And.intro trivial (And.intro (And.intro trivial trivial) (And.intro (And.intro trivial trivial) trivial)))) 28 [0, 5, 14, 15] (fun n vs m K => r76_L0_R call fuel base n vs m K) ?_ ?_ (fun _ _ _ => rfl)
  · intro vs m K
    unfold r76_L0_R
    split <;> rfl
  · intro n vs m K hl
    match vs, hl with
    | [x0, x5, x14, x15], _ => show _ = _; kernel_rfl
theorem r76_eq (call : CallF) (fuel base : Nat) (x0 : Value) (x1 : Value) (m : M) : kbody E call keep76 (lp76 call fuel base) base Try.f76 [x0, x1] m = r76 call fuel base x0 x1 m := by
  kernel_rfl
noncomputable def rf76 : RF := fun call fuel base args m => match args with
  | [x0, x1] => r76 call fuel base x0 x1 m
  | _ => none
theorem r76_lk (call : CallF) (fuel base : Nat) : LoopsOk E call (lp76 call fuel base) fuel base 0 c76 = (And True (And (And True (And (And True True) True)) (And True (And (And True (LpOk E call (lp76 call fuel base) fuel base 0 (loopB (blockB (seqR (seqL (seqR (seqR (seqR c76))))))))) (And True True))))) := by kernel_rfl
theorem r76_fn : E.P.funcs[76]? = some Try.f76 := by kernel_rfl
theorem r76_body : Try.f76.body = some c76 := by kernel_rfl
theorem rf76_ok : RFok E 76 rf76 := by
  show RFok' E 76 rf76
  refine ⟨Try.f76, r76_fn, fun call fuel base args m r _ h => ?_⟩
  unfold rf76 at h
  split at h
  · rw [← r76_eq] at h
    exact kbody_sound (c := c76) r76_body (Eq.mpr (r76_lk call fuel base) (And.intro trivial (And.intro (And.intro trivial (And.intro (And.intro trivial trivial) trivial)) (And.intro trivial (And.intro (And.intro trivial (r76_L0_ok call fuel base)) (And.intro trivial trivial)))))) h
  · simp at h
end Go.AM
namespace Go.AM
open Go Go.Proofs
noncomputable def r77_L0 (call : CallF) (fuel base : Nat) (kp : Value → M → Res2) (kr : Value → M → Res2) (kx0 : Value → Value → Value → M → Res2) (n : Nat) : Value → Value → Value → Value → Value → Value → M → Res2 :=
  Nat.rec (motive := fun _ => Value → Value → Value → Value → Value → Value → M → Res2) (fun _ _ _ _ _ _ _ => none)
    (fun _ ih x0 x3 x4 x5 x10 x11 m =>
      (k1 (mbin E .lss 3 x11 x10) fun v12_4 => (kb v12_4 (kc (call base 98 [x0, x11] m) (fun v16_5 m => (k1 (mbin E .lss 3 v16_5 (.int .i64 0)) fun v18_6 => (kb v18_6 (kr (.int .i64 0) m) (k1 (mbin E .neq 3 v16_5 x11) fun v21_7 => (kb v21_7 (k1 (mindexAddr E.P 33 x0 v16_5) fun v28_8 => (k1 (xload E.P m 27 v28_8) fun v29_9 => (k1 (mindexAddr E.P 33 x0 x11) fun v32_10 => (k1 (xload E.P m 27 v32_10) fun v33_11 => (k1 (mindexAddr E.P 33 x0 x11) fun v34_12 => (ks (xstore E.P base m 27 v34_12 v29_9) fun m => (k1 (mindexAddr E.P 33 x0 v16_5) fun v35_13 => (ks (xstore E.P base m 27 v35_13 v33_11) fun m => (k1 (mun .not x5) fun v37_14 => (k1 (xload E.P m 120 x3) fun v41_15 => (kc (call base 99 [x0, x11, x4, v41_15] m) (fun v42_16 m => (k1 (mindexAddr E.P 33 x0 x11) fun v45_17 => (k1 (xload E.P m 27 v45_17) fun v46_18 => (k1 (mindexAddr E.P 27 v46_18 x11) fun v48_19 => (k1 (xload E.P m 3 v48_19) fun v49_20 => (k1 (mbin E .add 3 x11 (.int .i64 1)) fun v50_21 => (ih x0 x3 v49_20 v37_14 x10 v50_21 m))))))) (fun v m => kp v m)))))))))))) (k1 (xload E.P m 120 x3) fun v41_22 => (kc (call base 99 [x0, x11, x4, v41_22] m) (fun v42_23 m => (k1 (mindexAddr E.P 33 x0 x11) fun v45_24 => (k1 (xload E.P m 27 v45_24) fun v46_25 => (k1 (mindexAddr E.P 27 v46_25 x11) fun v48_26 => (k1 (xload E.P m 3 v48_26) fun v49_27 => (k1 (mbin E .add 3 x11 (.int .i64 1)) fun v50_28 => (ih x0 x3 v49_27 x5 x10 v50_28 m))))))) (fun v m => kp v m)))))))) (fun v m => kp v m)) (kx0 x3 x4 x5 m)))) n
noncomputable def r77 (call : CallF) (fuel base : Nat) (x0 : Value) (m : M) : Res2 :=
  (kc (call base 97 [] m) (fun v8_1 m => (k2 (xalloc E.P m 120) fun v3_2 m => (ks (xstore E.P base m 120 v3_2 v8_1) fun m => (k2 (vcall E.P base m .len [33] [x0]) fun v10_3 m => (r77_L0 call fuel base (fun v m => some (.pan v, m)) (fun y2_29 m => (fVal y2_29 fun v => some (.ret v, m))) (fun y3_30 y4_31 y5_32 m => (kb y5_32 (k1 (mfieldAddr E.P 120 y3_30 1) fun v52_33 => (k1 (xload E.P m 56 v52_33) fun v53_34 => (kc (kv call base v53_34 [(.int .i64 0), y4_31] m) (fun v55_35 m => (fVal v55_35 fun v => some (.ret v, m))) (fun v m => some (.pan v, m))))) (fVal y4_31 fun v => some (.ret v, m)))) fuel x0 v3_2 (.int .i64 1) (.bool false) v10_3 (.int .i64 0) m))))) (fun v m => some (.pan v, m)))
def keep77 : Keep := { region := fun i => ([[0], [0, 3], [0, 3, 4, 5], [0, 3, 4, 5, 10, 11], [0, 3, 4, 5, 10, 11, 12], [0, 3, 4, 5, 6, 10, 11], [0, 3, 4, 5, 6, 7, 10, 11], [0, 3, 4, 5, 6, 7, 10, 11, 18], [2], [0, 3, 4, 5, 6, 7, 10, 11, 21], [0, 3, 4, 5, 6, 10, 11], [0, 3, 4, 5, 6, 10, 11], [0, 3, 5, 6, 10, 11], [0, 3, 4, 5, 10, 11], [0, 3, 4, 5, 10, 11], [3, 4, 51], [2], [2]] : List (List Nat))[i]?, exit := fun i => ([[3, 4, 5], [0, 3, 4, 5, 10, 11]] : List (List Nat))[i]?, ret := some [2] }
noncomputable def r77_L0_R (call : CallF) (fuel base n : Nat) (vs : List Value) (m : M) (K : KT) : Res2 := match vs with
  | [x0, x3, x4, x5, x10, x11] => r77_L0 call fuel base (fun v m => K (.pan v) { n := 57, l := [] } m) (fun y2 m => K .ret { n := 57, l := [(2, y2)] } m) (fun y3 y4 y5 m => K (.exit 0) { n := 57, l := [(3, y3), (4, y4), (5, y5)] } m) n x0 x3 x4 x5 x10 x11 m
  | _ => none
noncomputable def lp77 (call : CallF) (fuel base : Nat) : Lp := lpsel [(0, fun T m K => kslots 57 [0, 3, 4, 5, 10, 11] T fun vs => r77_L0_R call fuel base fuel vs m K)]
noncomputable def c77 : Code := Try.f77.body.getD .skip
theorem r77_L0_lk (call : CallF) (fuel base : Nat) : LoopsOk E call (lp77 call fuel base) fuel base 0 (loopB (blockB (seqR (seqL (seqR (seqR (seqR c77))))))) = (And True (And (And True True) (And (And True (And True (And (And True (And (And True True) True)) (And (And True (And (And True True) True)) (And True True))))) True))) := by kernel_rfl
theorem r77_L0_ok (call : CallF) (fuel base : Nat) : LpOk E call (lp77 call fuel base) fuel base 0 (loopB (blockB (seqR (seqL (seqR (seqR (seqR c77))))))) := by
  refine loop_ok (kp := keep77) (hb := Eq.mpr (r77_L0_lk call fuel base) (And.intro trivial (And.intro (And.intro trivial trivial) (And.intro (And.intro trivial (And.intro trivial (And.intro (And.intro trivial (And.intro (And.intro trivial trivial) trivial)) (And.intro (And.intro trivial (And.intro (And.intro trivial trivial) trivial)) (And.intro trivial trivial))))) trivial)))) 57 [0, 3, 4, 5, 10, 11] (fun n vs m K => r77_L0_R call fuel base n vs m K) ?_ ?_ (fun _ _ _ => rfl)
  · intro vs m K
    unfold r77_L0_R
    split <;> rfl
  · intro n vs m K hl
    match vs, hl with
    | [x0, x3, x4, x5, x10, x11], _ => show _ = _; kernel_rfl
theorem r77_eq (call : CallF) (fuel base : Nat) (x0 : Value) (m : M) : kbody E call keep77 (lp77 call fuel base) base Try.f77 [x0] m = r77 call fuel base x0 m := by
  kernel_rfl
noncomputable def rf77 : RF := fun call fuel base args m => match args with
  | [x0] => r77 call fuel base x0 m
  | _ => none
theorem r77_lk (call : CallF) (fuel base : Nat) : LoopsOk E call (lp77 call fuel base) fuel base 0 c77 = (And True (And True (And True (And (And True (LpOk E call (lp77 call fuel base) fuel base 0 (loopB (blockB (seqR (seqL (seqR (seqR (seqR c77))))))))) (And (And True (And (And True True) True)) (And True True)))))) := by kernel_rfl
theorem r77_fn : E.P.funcs[77]? = some Try.f77 := by kernel_rfl
theorem r77_body : Try.f77.body = some c77 := by kernel_rfl
theorem rf77_ok : RFok E 77 rf77 := by
  show RFok' E 77 rf77
  refine ⟨Try.f77, r77_fn, fun call fuel base args m r _ h => ?_⟩
  unfold rf77 at h
  split at h
  · rw [← r77_eq] at h
    exact kbody_sound (c := c77) r77_body (Eq.mpr (r77_lk call fuel base) (And.intro trivial (And.intro trivial (And.intro trivial (And.intro (And.intro trivial (r77_L0_ok call fuel base)) (And.intro (And.intro trivial (And.intro (And.intro trivial trivial) trivial)) (And.intro trivial trivial))))))) h
  · simp at h
end Go.AM
namespace Go.AM
open Go Go.Proofs
noncomputable def r78 (call : CallF) (fuel base : Nat) (x0 : Value) (m : M) : Res2 :=
  (k2 (xbox m x0) fun v1_1 m => (fVal (.func (.func 100) #[] #[v1_1]) fun v => some (.ret v, m)))
def keep78 : Keep := { region := fun i => ([[1], [2]] : List (List Nat))[i]?, exit := fun i => ([] : List (List Nat))[i]?, ret := some [2] }
noncomputable def lp78 (call : CallF) (fuel base : Nat) : Lp := lpsel []
noncomputable def c78 : Code := Try.f78.body.getD .skip
theorem r78_eq (call : CallF) (fuel base : Nat) (x0 : Value) (m : M) : kbody E call keep78 (lp78 call fuel base) base Try.f78 [x0] m = r78 call fuel base x0 m := by
  kernel_rfl
noncomputable def rf78 : RF := fun call fuel base args m => match args with
  | [x0] => r78 call fuel base x0 m
  | _ => none
theorem r78_lk (call : CallF) (fuel base : Nat) : LoopsOk E call (lp78 call fuel base) fuel base 0 c78 = (And True (And True True)) := by kernel_rfl
theorem r78_fn : E.P.funcs[78]? = some Try.f78 := by kernel_rfl
theorem r78_body : Try.f78.body = some c78 := by kernel_rfl
theorem rf78_ok : RFok E 78 rf78 := by
  show RFok' E 78 rf78
  refine ⟨Try.f78, r78_fn, fun call fuel base args m r _ h => ?_⟩
  unfold rf78 at h
  split at h
  · rw [← r78_eq] at h
    exact kbody_sound (c := c78) r78_body (Eq.mpr (r78_lk call fuel base) (And.intro trivial (And.intro trivial trivial))) h
  · simp at h
end Go.AM
namespace Go.AM
open Go Go.Proofs
noncomputable def r79_L2 (call : CallF) (fuel base : Nat) (kx2 : Value → Value → Value → M → Res2) (n : Nat) : Value → Value → Value → Value → Value → M → Res2 :=
  Nat.rec (motive := fun _ => Value → Value → Value → Value → Value → M → Res2) (fun _ _ _ _ _ _ => none)
    (fun _ ih x3 x9 x10 x13 x14 m =>
      (k1 (mbin E .lss 3 x14 (.int .i64 4)) fun v15_8 => (kb v15_8 (k1 (mindex E.P 76 x13 x14) fun v16_9 => (k1 (mbin E .add 3 x3 v16_9) fun v19_10 => (k1 (mbin E .add 3 x14 (.int .i64 1)) fun v20_11 => (ih v19_10 x9 x10 x13 v20_11 m)))) (kx2 x3 x9 x10 m)))) n
noncomputable def r79_L0 (call : CallF) (fuel base : Nat) (kx0 : Value → M → Res2) (n : Nat) : Value → Value → Value → M → Res2 :=
  Nat.rec (motive := fun _ => Value → Value → Value → M → Res2) (fun _ _ _ _ => none)
    (fun _ ih x3 x9 x10 m =>
      (k1 (mbin E .lss 3 x10 (.int .i64 4)) fun v11_4 => (kb v11_4 (k1 (mindex E.P 77 x9 x10) fun v12_5 => (k2 (xalloc E.P m 76) fun v5_6 m => (ks (xstore E.P base m 76 v5_6 v12_5) fun m => (k1 (xload E.P m 76 v5_6) fun v13_7 => (r79_L2 call fuel base (fun y3_12 y9_13 y10_14 m => (k1 (mbin E .add 3 y10_14 (.int .i64 1)) fun v21_15 => (ih y3_12 y9_13 v21_15 m))) fuel x3 x9 x10 v13_7 (.int .i64 0) m))))) (kx0 x3 m)))) n
noncomputable def r79 (call : CallF) (fuel base : Nat) (x0 : Value) (m : M) : Res2 :=
  (k2 (xbox m x0) fun v1_1 m => (k1 (mfieldAddr E.P 79 v1_1 1) fun v8_2 => (k1 (xload E.P m 77 v8_2) fun v9_3 => (r79_L0 call fuel base (fun y3_16 m => (fVal y3_16 fun v => some (.ret v, m))) fuel (.int .i64 0) v9_3 (.int .i64 0) m))))
def keep79 : Keep := { region := fun i => ([[1], [1, 3], [3, 9, 10], [3, 9, 10, 11], [3, 5, 9, 10], [3, 9, 10, 13, 14], [3, 9, 10, 13, 14, 15], [3, 7, 9, 10, 13, 14], [3, 9, 10, 13, 14], [3, 9, 10, 13, 14], [3, 9, 10], [2]] : List (List Nat))[i]?, exit := fun i => ([[3], [3, 9, 10], [3, 9, 10], [3, 9, 10, 13, 14]] : List (List Nat))[i]?, ret := some [2] }
noncomputable def r79_L2_R (call : CallF) (fuel base n : Nat) (vs : List Value) (m : M) (K : KT) : Res2 := match vs with
  | [x3, x9, x10, x13, x14] => r79_L2 call fuel base (fun y3 y9 y10 m => K (.exit 2) { n := 23, l := [(3, y3), (9, y9), (10, y10)] } m) n x3 x9 x10 x13 x14 m
  | _ => none
noncomputable def r79_L0_R (call : CallF) (fuel base n : Nat) (vs : List Value) (m : M) (K : KT) : Res2 := match vs with
  | [x3, x9, x10] => r79_L0 call fuel base (fun y3 m => K (.exit 0) { n := 23, l := [(3, y3)] } m) n x3 x9 x10 m
  | _ => none
noncomputable def lp79 (call : CallF) (fuel base : Nat) : Lp := lpsel [(2, fun T m K => kslots 23 [3, 9, 10, 13, 14] T fun vs => r79_L2_R call fuel base fuel vs m K), (0, fun T m K => kslots 23 [3, 9, 10] T fun vs => r79_L0_R call fuel base fuel vs m K)]
noncomputable def c79 : Code := Try.f79.body.getD .skip
theorem r79_L2_lk (call : CallF) (fuel base : Nat) : LoopsOk E call (lp79 call fuel base) fuel base 2 (loopB (blockB (seqR (seqR (blockB (seqL (seqR (seqR (loopB (blockB (seqR (seqL (seqR (seqR c79)))))))))))))) = (And True (And (And True True) (And (And True True) True))) := by kernel_rfl
theorem r79_L2_ok (call : CallF) (fuel base : Nat) : LpOk E call (lp79 call fuel base) fuel base 2 (loopB (blockB (seqR (seqR (blockB (seqL (seqR (seqR (loopB (blockB (seqR (seqL (seqR (seqR c79)))))))))))))) := by
  refine loop_ok (kp := keep79) (hb := Eq.mpr (r79_L2_lk call fuel base) (And.intro trivial (And.intro (And.intro trivial trivial) (And.intro (And.intro trivial trivial) trivial)))) 23 [3, 9, 10, 13, 14] (fun n vs m K => r79_L2_R call fuel base n vs m K) ?_ ?_ (fun _ _ _ => rfl)
  · intro vs m K
    unfold r79_L2_R
    split <;> rfl
  · intro n vs m K hl
    match vs, hl with
    | [x3, x9, x10, x13, x14], _ => show _ = _; kernel_rfl
theorem r79_L0_lk (call : CallF) (fuel base : Nat) : LoopsOk E call (lp79 call fuel base) fuel base 0 (loopB (blockB (seqR (seqL (seqR (seqR c79)))))) = (And True (And (And True True) (And (And True (And True (LpOk E call (lp79 call fuel base) fuel base 2 (loopB (blockB (seqR (seqR (blockB (seqL (seqR (seqR (loopB (blockB (seqR (seqL (seqR (seqR c79))))))))))))))))) True))) := by kernel_rfl
theorem r79_L0_ok (call : CallF) (fuel base : Nat) : LpOk E call (lp79 call fuel base) fuel base 0 (loopB (blockB (seqR (seqL (seqR (seqR c79)))))) := by
  refine loop_ok (kp := keep79) (hb := Eq.mpr (r79_L0_lk call fuel base) (And.intro trivial (And.intro (And.intro trivial trivial) (And.intro (And.intro trivial (And.intro trivial (r79_L2_ok call fuel base))) trivial)))) 23 [3, 9, 10] (fun n vs m K => r79_L0_R call fuel base n vs m K) ?_ ?_ (fun _ _ _ => rfl)
  · intro vs m K
    unfold r79_L0_R
    split <;> rfl
  · intro n vs m K hl
    match vs, hl with
    | [x3, x9, x10], _ => show _ = _; kernel_rfl
theorem r79_eq (call : CallF) (fuel base : Nat) (x0 : Value) (m : M) : kbody E call keep79 (lp79 call fuel base) base Try.f79 [x0] m = r79 call fuel base x0 m := by
  kernel_rfl
noncomputable def rf79 : RF := fun call fuel base args m => match args with
  | [x0] => r79 call fuel base x0 m
  | _ => none
theorem r79_lk (call : CallF) (fuel base : Nat) : LoopsOk E call (lp79 call fuel base) fuel base 0 c79 = (And True (And True (And (And True (LpOk E call (lp79 call fuel base) fuel base 0 (loopB (blockB (seqR (seqL (seqR (seqR c79)))))))) (And True True)))) := by kernel_rfl
theorem r79_fn : E.P.funcs[79]? = some Try.f79 := by kernel_rfl
theorem r79_body : Try.f79.body = some c79 := by kernel_rfl
theorem rf79_ok : RFok E 79 rf79 := by
  show RFok' E 79 rf79
  refine ⟨Try.f79, r79_fn, fun call fuel base args m r _ h => ?_⟩
  unfold rf79 at h
  split at h
  · rw [← r79_eq] at h
    exact kbody_sound (c := c79) r79_body (Eq.mpr (r79_lk call fuel base) (And.intro trivial (And.intro trivial (And.intro (And.intro trivial (r79_L0_ok call fuel base)) (And.intro trivial trivial))))) h
  · simp at h
end Go.AM
namespace Go.AM
open Go Go.Proofs
noncomputable def r80 (call : CallF) (fuel base : Nat) (x0 : Value) (x1 : Value) (x2 : Value) (m : M) : Res2 :=
  (k2 (xbox m x0) fun v3_1 m => (k1 (xload E.P m 79 v3_1) fun v7_2 => (k1 (mbin E .sub 3 x1 (.int .i64 1)) fun v9_3 => (kc (kB m (call m.length 104 [v7_2, v9_3, x2] m)) (fun v11_4 m => (k1 (xload E.P m 79 v3_1) fun v12_5 => (k1 (mbin E .sub 3 x2 (.int .i64 1)) fun v15_6 => (kc (kB m (call m.length 104 [v12_5, x1, v15_6] m)) (fun v16_7 m => (k2 (vcall E.P base m .min [3, 3] [v11_4, v16_7]) fun v17_8 m => (fVal v17_8 fun v => some (.ret v, m)))) (fun _ _ => none))))) (fun _ _ => none)))))
def keep80 : Keep := { region := fun i => ([[1, 2, 3], [6]] : List (List Nat))[i]?, exit := fun i => ([] : List (List Nat))[i]?, ret := some [6] }
noncomputable def lp80 (call : CallF) (fuel base : Nat) : Lp := lpsel []
noncomputable def c80 : Code := Try.f80.body.getD .skip
theorem r80_eq (call : CallF) (fuel base : Nat) (x0 : Value) (x1 : Value) (x2 : Value) (m : M) : kbody E call keep80 (lp80 call fuel base) base Try.f80 [x0, x1, x2] m = r80 call fuel base x0 x1 x2 m := by
  kernel_rfl
noncomputable def rf80 : RF := fun call fuel base args m => match args with
  | [x0, x1, x2] => r80 call fuel base x0 x1 x2 m
  | _ => none
theorem r80_lk (call : CallF) (fuel base : Nat) : LoopsOk E call (lp80 call fuel base) fuel base 0 c80 = (And True (And True True)) := by kernel_rfl
theorem r80_fn : E.P.funcs[80]? = some Try.f80 := by kernel_rfl
theorem r80_body : Try.f80.body = some c80 := by kernel_rfl
theorem rf80_ok : RFok E 80 rf80 := by
  show RFok' E 80 rf80
  refine ⟨Try.f80, r80_fn, fun call fuel base args m r _ h => ?_⟩
  unfold rf80 at h
  split at h
  · rw [← r80_eq] at h
    exact kbody_sound (c := c80) r80_body (Eq.mpr (r80_lk call fuel base) (And.intro trivial (And.intro trivial trivial))) h
  · simp at h
end Go.AM
namespace Go.AM
open Go Go.Proofs
noncomputable def r81_L4 (call : CallF) (fuel base : Nat) (kp : Value → M → Res2) (kx4 : Value → Value → Value → Value → Value → Value → Value → Value → Value → M → Res2) (n : Nat) : Value → Value → Value → Value → Value → Value → Value → Value → Value → Value → Value → Value → Value → Value → M → Res2 :=
  Nat.rec (motive := fun _ => Value → Value → Value → Value → Value → Value → Value → Value → Value → Value → Value → Value → Value → Value → M → Res2) (fun _ _ _ _ _ _ _ _ _ _ _ _ _ _ _ => none)
    (fun _ ih x1 x2 x3 x4 x5 x6 x7 x8 x27 x28 x29 x37 x38 x39 m =>
      (k1 (mbin E .lss 3 x39 x38) fun v40_22 => (kb v40_22 (k1 (mindexAddr E.P 104 x37 x39) fun v42_23 => (k1 (xload E.P m 76 v42_23) fun v43_24 => (k2 (xalloc E.P m 76) fun v10_25 m => (ks (xstore E.P base m 76 v10_25 v43_24) fun m => (k1 (xload E.P m 76 v10_25) fun v44_26 => (k1 (xload E.P m 76 x8) fun v45_27 => (kc (call base 103 [v44_26, v45_27] m) (fun v46_28 m => (kb v46_28 (k1 (mindexAddr E.P 27 x6 x7) fun v49_29 => (k1 (xload E.P m 3 v49_29) fun v50_30 => (k1 (mbin E .sub 3 x5 (.int .i64 1)) fun v53_31 => (k1 (mindexAddr E.P 33 x4 v53_31) fun v54_32 => (k1 (xload E.P m 27 v54_32) fun v55_33 => (k1 (mindexAddr E.P 27 v55_33 x39) fun v57_34 => (k1 (xload E.P m 3 v57_34) fun v58_35 => (k1 (mbin E .add 3 v50_30 v58_35) fun v59_36 => (k1 (mindexAddr E.P 27 x6 x7) fun v60_37 => (ks (xstore E.P base m 3 v60_37 v59_36) fun m => (k1 (mbin E .add 3 x39 (.int .i64 1)) fun v61_38 => (ih x1 x2 x3 x4 x5 x6 x7 x8 x27 x28 x29 x37 x38 v61_38 m)))))))))))) (k1 (mbin E .add 3 x39 (.int .i64 1)) fun v61_39 => (ih x1 x2 x3 x4 x5 x6 x7 x8 x27 x28 x29 x37 x38 v61_39 m)))) (fun v m => kp v m)))))))) (kx4 x1 x2 x3 x4 x5 x6 x27 x28 x29 m)))) n
noncomputable def r81_L2 (call : CallF) (fuel base : Nat) (kp : Value → M → Res2) (kx2 : Value → Value → Value → Value → Value → Value → M → Res2) (n : Nat) : Value → Value → Value → Value → Value → Value → Value → Value → Value → M → Res2 :=
  Nat.rec (motive := fun _ => Value → Value → Value → Value → Value → Value → Value → Value → Value → M → Res2) (fun _ _ _ _ _ _ _ _ _ _ => none)
    (fun _ ih x1 x2 x3 x4 x5 x6 x27 x28 x29 m =>
      (k1 (mbin E .lss 3 x29 x28) fun v30_15 => (kb v30_15 (k1 (mindexAddr E.P 104 x27 x29) fun v32_16 => (k1 (xload E.P m 76 v32_16) fun v33_17 => (k2 (xalloc E.P m 76) fun v8_18 m => (ks (xstore E.P base m 76 v8_18 v33_17) fun m => (k1 (mbin E .add 3 x29 (.int .i64 1)) fun v36_19 => (k1 (mslice E.P m 104 x3 none (some v36_19) none) fun v37_20 => (k2 (vcall E.P base m .len [104] [v37_20]) fun v38_21 m => (r81_L4 call fuel base (fun v m => kp v m) (fun y1_40 y2_41 y3_42 y4_43 y5_44 y6_45 y27_46 y28_47 y29_48 m => (k1 (mbin E .add 3 y29_48 (.int .i64 1)) fun v62_49 => (ih y1_40 y2_41 y3_42 y4_43 y5_44 y6_45 y27_46 y28_47 v62_49 m))) fuel x1 x2 x3 x4 x5 x6 x29 v8_18 x27 x28 x29 v37_20 v38_21 (.int .i64 0) m)))))))) (kx2 x1 x2 x3 x4 x5 x6 m)))) n
noncomputable def r81_L0 (call : CallF) (fuel base : Nat) (kp : Value → M → Res2) (kx0 : Value → Value → Value → M → Res2) (n : Nat) : Value → Value → Value → Value → Value → M → Res2 :=
  Nat.rec (motive := fun _ => Value → Value → Value → Value → Value → M → Res2) (fun _ _ _ _ _ _ => none)
    (fun _ ih x1 x2 x3 x4 x5 m =>
      (k1 (mfieldAddr E.P 23 x1 0) fun v19_9 => (k1 (xload E.P m 3 v19_9) fun v20_10 => (k1 (mbin E .lss 3 x5 v20_10) fun v21_11 => (kb v21_11 (k2 (vcall E.P base m .len [104] [x3]) fun v25_12 m => (k2 (xmakeSlice E.P m 27 v25_12 v25_12) fun v26_13 m => (k2 (vcall E.P base m .len [104] [x3]) fun v28_14 m => (r81_L2 call fuel base (fun v m => kp v m) (fun y1_50 y2_51 y3_52 y4_53 y5_54 y6_55 m => (k2 (xbuildSlice E.P m 33 1 [(0, y6_55)]) fun v65_56 m => (k2 (vcall E.P base m .append [33, 33] [y4_53, v65_56]) fun v66_57 m => (k1 (mbin E .add 3 y5_54 (.int .i64 1)) fun v23_58 => (ih y1_50 y2_51 y3_52 v66_57 v23_58 m))))) fuel x1 x2 x3 x4 x5 v26_13 x3 v28_14 (.int .i64 0) m)))) (kx0 x2 x3 x4 m)))))) n
noncomputable def r81 (call : CallF) (fuel base : Nat) (x0 : Value) (m : M) : Res2 :=
  (k2 (xbox m x0) fun v1_1 m => (k2 (xalloc E.P m 106) fun v2_2 m => (k1 (xload E.P m 23 v1_1) fun v11_3 => (kc (call base 101 [v11_3] m) (fun v12_4 m => (k2 (xbuildSlice E.P m 27 1 [(0, (.int .i64 1))]) fun v13_5 m => (k2 (vcall E.P base m .len [104] [v12_4]) fun v15_6 m => (kc (call base 105 [v13_5, v15_6] m) (fun v16_7 m => (k2 (xbuildSlice E.P m 33 1 [(0, v16_7)]) fun v17_8 m => (r81_L0 call fuel base (fun v m => some (.pan v, m)) (fun y2_59 y3_60 y4_61 m => (k1 (mbuild E.P 106 [(0, y3_60), (1, y4_61)]) fun v69_62 => (ks (xstore E.P base m 106 y2_59 v69_62) fun m => (k0 (mload E.P m 106 y2_59) fun r_63 => (fVal r_63 fun v => some (.ret v, m)))))) fuel v1_1 v2_2 v12_4 v17_8 (.int .i64 1) m))) (fun v m => some (.pan v, m)))))) (fun v m => some (.pan v, m))))))
def keep81 : Keep := { region := fun i => ([[1, 2], [1, 2, 3], [1, 2, 3, 4], [1, 2, 3, 4, 5], [1, 2, 3, 4, 5, 21], [1, 2, 3, 4, 5], [1, 2, 3, 4, 5, 6], [1, 2, 3, 4, 5, 6, 27, 28, 29], [1, 2, 3, 4, 5, 6, 27, 28, 29, 30], [1, 2, 3, 4, 5, 6, 7, 8, 27, 28, 29], [1, 2, 3, 4, 5, 6, 7, 8, 27, 28, 29, 37, 38, 39], [1, 2, 3, 4, 5, 6, 7, 8, 27, 28, 29, 37, 38, 39, 40], [1, 2, 3, 4, 5, 6, 7, 8, 9, 10, 27, 28, 29, 37, 38, 39], [1, 2, 3, 4, 5, 6, 7, 8, 9, 27, 28, 29, 37, 38, 39, 46], [1, 2, 3, 4, 5, 6, 7, 8, 27, 28, 29, 37, 38, 39], [1, 2, 3, 4, 5, 6, 7, 8, 27, 28, 29, 37, 38, 39], [1, 2, 3, 4, 5, 6, 27, 28, 29], [1, 2, 3, 4, 5], [2]] : List (List Nat))[i]?, exit := fun i => ([[2, 3, 4], [1, 2, 3, 4, 5], [1, 2, 3, 4, 5, 6], [1, 2, 3, 4, 5, 6, 27, 28, 29], [1, 2, 3, 4, 5, 6, 27, 28, 29], [1, 2, 3, 4, 5, 6, 7, 8, 27, 28, 29, 37, 38, 39]] : List (List Nat))[i]?, ret := some [2] }
noncomputable def r81_L4_R (call : CallF) (fuel base n : Nat) (vs : List Value) (m : M) (K : KT) : Res2 := match vs with
  | [x1, x2, x3, x4, x5, x6, x7, x8, x27, x28, x29, x37, x38, x39] => r81_L4 call fuel base (fun v m => K (.pan v) { n := 70, l := [] } m) (fun y1 y2 y3 y4 y5 y6 y27 y28 y29 m => K (.exit 4) { n := 70, l := [(1, y1), (2, y2), (3, y3), (4, y4), (5, y5), (6, y6), (27, y27), (28, y28), (29, y29)] } m) n x1 x2 x3 x4 x5 x6 x7 x8 x27 x28 x29 x37 x38 x39 m
  | _ => none
noncomputable def r81_L2_R (call : CallF) (fuel base n : Nat) (vs : List Value) (m : M) (K : KT) : Res2 := match vs with
  | [x1, x2, x3, x4, x5, x6, x27, x28, x29] => r81_L2 call fuel base (fun v m => K (.pan v) { n := 70, l := [] } m) (fun y1 y2 y3 y4 y5 y6 m => K (.exit 2) { n := 70, l := [(1, y1), (2, y2), (3, y3), (4, y4), (5, y5), (6, y6)] } m) n x1 x2 x3 x4 x5 x6 x27 x28 x29 m
  | _ => none
noncomputable def r81_L0_R (call : CallF) (fuel base n : Nat) (vs : List Value) (m : M) (K : KT) : Res2 := match vs with
  | [x1, x2, x3, x4, x5] => r81_L0 call fuel base (fun v m => K (.pan v) { n := 70, l := [] } m) (fun y2 y3 y4 m => K (.exit 0) { n := 70, l := [(2, y2), (3, y3), (4, y4)] } m) n x1 x2 x3 x4 x5 m
  | _ => none
noncomputable def lp81 (call : CallF) (fuel base : Nat) : Lp := lpsel [(4, fun T m K => kslots 70 [1, 2, 3, 4, 5, 6, 7, 8, 27, 28, 29, 37, 38, 39] T fun vs => r81_L4_R call fuel base fuel vs m K), (2, fun T m K => kslots 70 [1, 2, 3, 4, 5, 6, 27, 28, 29] T fun vs => r81_L2_R call fuel base fuel vs m K), (0, fun T m K => kslots 70 [1, 2, 3, 4, 5] T fun vs => r81_L0_R call fuel base fuel vs m K)]
noncomputable def c81 : Code := Try.f81.body.getD .skip
theorem r81_L4_lk (call : CallF) (fuel base : Nat) : LoopsOk E call (lp81 call fuel base) fuel base 4 (loopB (blockB (seqR (seqR (blockB (seqL (seqR (seqR (loopB (blockB (seqR (seqL (seqR (blockB (seqL (seqR (loopB (blockB (seqR (seqL (seqR (seqR (seqR c81))))))))))))))))))))))) = (And True (And (And True True) (And (And True (And True (And True True))) True))) := by kernel_rfl
theorem r81_L4_ok (call : CallF) (fuel base : Nat) : LpOk E call (lp81 call fuel base) fuel base 4 (loopB (blockB (seqR (seqR (blockB (seqL (seqR (seqR (loopB (blockB (seqR (seqL (seqR (blockB (seqL (seqR (loopB (blockB (seqR (seqL (seqR (seqR (seqR c81))))))))))))))))))))))) := by
  refine loop_ok (kp := keep81) (hb := Eq.mpr (r81_L4_lk call fuel base) (And.intro trivial (And.intro (And.intro trivial trivial) (And.intro (And.intro trivial (And.intro trivial (And.intro trivial trivial))) trivial)))) 70 [1, 2, 3, 4, 5, 6, 7, 8, 27, 28, 29, 37, 38, 39] (fun n vs m K => r81_L4_R call fuel base n vs m K) ?_ ?_ (fun _ _ _ => rfl)
  · intro vs m K
    unfold r81_L4_R
    split <;> rfl
  · intro n vs m K hl
    match vs, hl with
    | [x1, x2, x3, x4, x5, x6, x7, x8, x27, x28, x29, x37, x38, x39], _ => show _ = _; kernel_rfl
theorem r81_L2_lk (call : CallF) (fuel base : Nat) : LoopsOk E call (lp81 call fuel base) fuel base 2 (loopB (blockB (seqR (seqL (seqR (blockB (seqL (seqR (loopB (blockB (seqR (seqL (seqR (seqR (seqR c81))))))))))))))) = (And True (And (And True True) (And (And True (And True (LpOk E call (lp81 call fuel base) fuel base 4 (loopB (blockB (seqR (seqR (blockB (seqL (seqR (seqR (loopB (blockB (seqR (seqL (seqR (blockB (seqL (seqR (loopB (blockB (seqR (seqL (seqR (seqR (seqR c81)))))))))))))))))))))))))) True))) := by kernel_rfl
theorem r81_L2_ok (call : CallF) (fuel base : Nat) : LpOk E call (lp81 call fuel base) fuel base 2 (loopB (blockB (seqR (seqL (seqR (blockB (seqL (seqR (loopB (blockB (seqR (seqL (seqR (seqR (seqR c81))))))))))))))) := by
  refine loop_ok (kp := keep81) (hb := Eq.mpr (r81_L2_lk call fuel base) (And.intro trivial (And.intro (And.intro trivial trivial) (And.intro (And.intro trivial (And.intro trivial (r81_L4_ok call fuel base))) trivial)))) 70 [1, 2, 3, 4, 5, 6, 27, 28, 29] (fun n vs m K => r81_L2_R call fuel base n vs m K) ?_ ?_ (fun _ _ _ => rfl)
  · intro vs m K
    unfold r81_L2_R
    split <;> rfl
  · intro n vs m K hl
    match vs, hl with
    | [x1, x2, x3, x4, x5, x6, x27, x28, x29], _ => show _ = _; kernel_rfl
theorem r81_L0_lk (call : CallF) (fuel base : Nat) : LoopsOk E call (lp81 call fuel base) fuel base 0 (loopB (blockB (seqR (seqL (seqR (seqR (seqR c81))))))) = (And (And True (And True True)) (And (And True (And (And True (LpOk E call (lp81 call fuel base) fuel base 2 (loopB (blockB (seqR (seqL (seqR (blockB (seqL (seqR (loopB (blockB (seqR (seqL (seqR (seqR (seqR c81))))))))))))))))) True)) True)) := by kernel_rfl
theorem r81_L0_ok (call : CallF) (fuel base : Nat) : LpOk E call (lp81 call fuel base) fuel base 0 (loopB (blockB (seqR (seqL (seqR (seqR (seqR c81))))))) := by
  refine loop_ok (kp := keep81) (hb := Eq.mpr (r81_L0_lk call fuel base) (And.intro (And.intro trivial (And.intro trivial trivial)) (And.intro (And.intro trivial (And.intro (And.intro trivial (r81_L2_ok call fuel base)) trivial)) trivial))) 70 [1, 2, 3, 4, 5] (fun n vs m K => r81_L0_R call fuel base n vs m K) ?_ ?_ (fun _ _ _ => rfl)
  · intro vs m K
    unfold r81_L0_R
    split <;> rfl
  · intro n vs m K hl
    match vs, hl with
    | [x1, x2, x3, x4, x5], _ => show _ = _; kernel_rfl
theorem r81_eq (call : CallF) (fuel base : Nat) (x0 : Value) (m : M) : kbody E call keep81 (lp81 call fuel base) base Try.f81 [x0] m = r81 call fuel base x0 m := by
  kernel_rfl
noncomputable def rf81 : RF := fun call fuel base args m => match args with
  | [x0] => r81 call fuel base x0 m
  | _ => none
theorem r81_lk (call : CallF) (fuel base : Nat) : LoopsOk E call (lp81 call fuel base) fuel base 0 c81 = (And True (And True (And True (And (And True (LpOk E call (lp81 call fuel base) fuel base 0 (loopB (blockB (seqR (seqL (seqR (seqR (seqR c81))))))))) (And True True))))) := by kernel_rfl
theorem r81_fn : E.P.funcs[81]? = some Try.f81 := by kernel_rfl
theorem r81_body : Try.f81.body = some c81 := by kernel_rfl
theorem rf81_ok : RFok E 81 rf81 := by
  show RFok' E 81 rf81
  refine ⟨Try.f81, r81_fn, fun call fuel base args m r _ h => ?_⟩
  unfold rf81 at h
  split at h
  · rw [← r81_eq] at h
    exact kbody_sound (c := c81) r81_body (Eq.mpr (r81_lk call fuel base) (And.intro trivial (And.intro trivial (And.intro trivial (And.intro (And.intro trivial (r81_L0_ok call fuel base)) (And.intro trivial trivial)))))) h
  · simp at h
end Go.AM
namespace Go.AM
open Go Go.Proofs
noncomputable def r82 (call : CallF) (fuel base : Nat) (x0 : Value) (m : M) : Res2 :=
  (k2 (xbox m x0) fun v1_1 m => (k2 (xalloc E.P m 76) fun v2_2 m => (k1 (mfieldAddr E.P 106 v1_1 0) fun v3_3 => (k1 (xload E.P m 104 v3_3) fun v4_4 => (k1 (mfieldAddr E.P 106 v1_1 0) fun v5_5 => (k1 (xload E.P m 104 v5_5) fun v6_6 => (k2 (vcall E.P base m .len [104] [v6_6]) fun v7_7 m => (k1 (mbin E .sub 3 v7_7 (.int .i64 1)) fun v8_8 => (k1 (mindexAddr E.P 104 v4_4 v8_8) fun v9_9 => (k1 (xload E.P m 76 v9_9) fun v10_10 => (ks (xstore E.P base m 76 v2_2 v10_10) fun m => (k0 (mload E.P m 76 v2_2) fun r_11 => (fVal r_11 fun v => some (.ret v, m))))))))))))))
def keep82 : Keep := { region := fun i => ([[1, 2], [2]] : List (List Nat))[i]?, exit := fun i => ([] : List (List Nat))[i]?, ret := some [2] }
noncomputable def lp82 (call : CallF) (fuel base : Nat) : Lp := lpsel []
noncomputable def c82 : Code := Try.f82.body.getD .skip
theorem r82_eq (call : CallF) (fuel base : Nat) (x0 : Value) (m : M) : kbody E call keep82 (lp82 call fuel base) base Try.f82 [x0] m = r82 call fuel base x0 m := by
  kernel_rfl
noncomputable def rf82 : RF := fun call fuel base args m => match args with
  | [x0] => r82 call fuel base x0 m
  | _ => none
theorem r82_lk (call : CallF) (fuel base : Nat) : LoopsOk E call (lp82 call fuel base) fuel base 0 c82 = (And True (And True True)) := by kernel_rfl
theorem r82_fn : E.P.funcs[82]? = some Try.f82 := by kernel_rfl
theorem r82_body : Try.f82.body = some c82 := by kernel_rfl
theorem rf82_ok : RFok E 82 rf82 := by
  show RFok' E 82 rf82
  refine ⟨Try.f82, r82_fn, fun call fuel base args m r _ h => ?_⟩
  unfold rf82 at h
  split at h
  · rw [← r82_eq] at h
    exact kbody_sound (c := c82) r82_body (Eq.mpr (r82_lk call fuel base) (And.intro trivial (And.intro trivial trivial))) h
  · simp at h
end Go.AM
namespace Go.AM
open Go Go.Proofs
noncomputable def r83 (call : CallF) (fuel base : Nat) (x0 : Value) (x1 : Value) (x2 : Value) (m : M) : Res2 :=
  (k2 (xbox m x0) fun v3_1 m => (k2 (xbox m x1) fun v4_2 m => (k2 (xbox m x2) fun v5_3 m => (fVal (.func (.func 106) #[] #[v3_1, v4_2, v5_3]) fun v => some (.ret v, m)))))
def keep83 : Keep := { region := fun i => ([[3, 4, 5], [6]] : List (List Nat))[i]?, exit := fun i => ([] : List (List Nat))[i]?, ret := some [6] }
noncomputable def lp83 (call : CallF) (fuel base : Nat) : Lp := lpsel []
noncomputable def c83 : Code := Try.f83.body.getD .skip
theorem r83_eq (call : CallF) (fuel base : Nat) (x0 : Value) (x1 : Value) (x2 : Value) (m : M) : kbody E call keep83 (lp83 call fuel base) base Try.f83 [x0, x1, x2] m = r83 call fuel base x0 x1 x2 m := by
  kernel_rfl
noncomputable def rf83 : RF := fun call fuel base args m => match args with
  | [x0, x1, x2] => r83 call fuel base x0 x1 x2 m
  | _ => none
theorem r83_lk (call : CallF) (fuel base : Nat) : LoopsOk E call (lp83 call fuel base) fuel base 0 c83 = (And True (And True True)) := by kernel_rfl
theorem r83_fn : E.P.funcs[83]? = some Try.f83 := by kernel_rfl
theorem r83_body : Try.f83.body = some c83 := by kernel_rfl
theorem rf83_ok : RFok E 83 rf83 := by
  show RFok' E 83 rf83
  refine ⟨Try.f83, r83_fn, fun call fuel base args m r _ h => ?_⟩
  unfold rf83 at h
  split at h
  · rw [← r83_eq] at h
    exact kbody_sound (c := c83) r83_body (Eq.mpr (r83_lk call fuel base) (And.intro trivial (And.intro trivial trivial))) h
  · simp at h
end Go.AM
namespace Go.AM
open Go Go.Proofs
noncomputable def r97 (call : CallF) (fuel base : Nat) (m : M) : Res2 :=
  (k2 (xalloc E.P m 120) fun v0_1 m => (k1 (mbuild E.P 120 [(0, (.func (.func 111) #[] #[])), (1, (.func (.func 112) #[] #[])), (2, (.func (.func 113) #[] #[]))]) fun v1_2 => (ks (xstore E.P base m 120 v0_1 v1_2) fun m => (k0 (mload E.P m 120 v0_1) fun r_3 => (fVal r_3 fun v => some (.ret v, m))))))
def keep97 : Keep := { region := fun i => ([[0], [0]] : List (List Nat))[i]?, exit := fun i => ([] : List (List Nat))[i]?, ret := some [0] }
noncomputable def lp97 (call : CallF) (fuel base : Nat) : Lp := lpsel []
noncomputable def c97 : Code := Try.f97.body.getD .skip
theorem r97_eq (call : CallF) (fuel base : Nat) (m : M) : kbody E call keep97 (lp97 call fuel base) base Try.f97 [] m = r97 call fuel base  m := by
  kernel_rfl
noncomputable def rf97 : RF := fun call fuel base args m => match args with
  | [] => r97 call fuel base  m
  | _ => none
theorem r97_lk (call : CallF) (fuel base : Nat) : LoopsOk E call (lp97 call fuel base) fuel base 0 c97 = (And True (And True True)) := by kernel_rfl
theorem r97_fn : E.P.funcs[97]? = some Try.f97 := by kernel_rfl
theorem r97_body : Try.f97.body = some c97 := by kernel_rfl
theorem rf97_ok : RFok E 97 rf97 := by
  show RFok' E 97 rf97
  refine ⟨Try.f97, r97_fn, fun call fuel base args m r _ h => ?_⟩
  unfold rf97 at h
  split at h
  · rw [← r97_eq] at h
    exact kbody_sound (c := c97) r97_body (Eq.mpr (r97_lk call fuel base) (And.intro trivial (And.intro trivial trivial))) h
  · simp at h
end Go.AM
