import Derived.KernelRfl
import Derived.Laws.BytesArg
import Derived.Laws.StructEq
import Derived.RangeFuncLeaves
import Derived.RangeFuncRecord
import Derived.Test.YtakncchgcbnfeaaProg
import Derived.Test.YtakncchgcbnfeaaRows
import Derived.WalkKit
import Derived.Test.YtakncchgcbnfeaaAmB
import Derived.Test.YtakncchgcbnfeaaAmG
import Derived.Test.YtakncchgcbnfeaaAmModel
import Derived.Test.YtakncchgcbnfeaaAmRel
import Derived.Test.YtakncchgcbnfeaaAmOps6
import Derived.Test.YtakncchgcbnfeaaAmCode
import Derived.Test.YtakncchgcbnfeaaAmDraw5
import Derived.Test.YtakncchgcbnfeaaAmEq
set_option linter.unusedVariables false
set_option linter.unusedSimpArgs false
set_option linter.unusedSectionVars false
namespace Go.AM
open Go Go.Proofs
noncomputable def E : Env where
  P := Try.prog
  pure := fun f => [12,13,14,15,18,19,20,22,23,24,25,26,36,37,39,40,41,43,45,46,47,48,49,50,51,52,55,56,57,58,59,62,63,64,67,73,74,75,76,79,80,82,85,86,87,88,89,90,91,93,94,95,96,103,104,108,109,110,111,112,113,115,124,125,126,127,128,130].contains f
  eqt := fun t => if t == 65 then [0, 2] else if t == 69 then [0, 2, 4] else if t == 67 then [0, 2, 4] else if t == 76 then [0, 2, 4, 6] else if t == 79 then [0, 2, 4, 6, 8, 10, 12, 14, 16, 18, 20, 22, 24, 26, 28, 30, 32, 34, 36] else []
  live := fun _ _ => none
def fieldSum (P : Program) (t : TypeId) : List (Nat × Nat × Bool) := (P.fieldsOf t).toList.map fun f => (f.type, f.offset, f.name == "_")
theorem flat_of {P : Program} {t : TypeId} {l : List (Nat × Nat × Bool)} {k : IntKind} (h1 : P.underlying t = some (.struct (P.fieldsOf t))) (h2 : P.stoodInHeld t = false) (h3 : P.eqGuardType P.depth t = false)
    (h3' : P.underlying 3 = some (.int k)) (h4' : P.underlying 4 = some .bool) (h4 : fieldSum P t = l) (h5 : ∀ q ∈ l, (q.1 = 3 ∨ q.1 = 4) ∧ q.2.2 = false) : flatFields P t (l.map fun q => 2 * q.2.1 + (if q.1 = 4 then 1 else 0)) := by
  have b3 : isBoolT P 3 = 0 := by unfold isBoolT; rw [h3']
  have b4 : isBoolT P 4 = 1 := by unfold isBoolT; rw [h4']
  have hq : ∀ f ∈ (P.fieldsOf t).toList, ((f.type = 3 ∨ f.type = 4) ∧ (f.name == "_") = false) := fun f hf =>
    h5 (f.type, f.offset, f.name == "_") (by rw [← h4]; exact List.mem_map.2 ⟨f, hf, rfl⟩)
  refine ⟨⟨h1, h2, h3⟩, ?_, fun f hf => ?_⟩
  · rw [← h4]
    unfold fieldSum
    rw [List.map_map]
    refine List.map_congr_left fun f hf => ?_
    rcases (hq f hf).1 with e | e
    · simp [e, b3]
    · simp [e, b4]
  · obtain ⟨e1, e2⟩ := hq f hf
    simp only [beq_eq_false_iff_ne] at e2
    refine ⟨?_, e2⟩
    rcases e1 with e | e
    · exact .inl ⟨⟨k, by rw [e]; exact h3'⟩, by rw [e]; exact b3⟩
    · exact .inr ⟨by rw [e]; exact h4', by rw [e]; exact b4⟩
theorem u3 : Try.prog.underlying 3 = some (.int .i64) := by kernel_rfl
theorem u4 : Try.prog.underlying 4 = some .bool := by kernel_rfl
theorem fl65 : flatFields Try.prog 65 [0, 2] := flat_of (l := [(3,0,false),(3,1,false)]) (by kernel_rfl) (by kernel_rfl) (by kernel_rfl) u3 u4 (by kernel_rfl) (by simp)
theorem fl69 : flatFields Try.prog 69 [0, 2, 4] := flat_of (l := [(3,0,false),(3,1,false),(3,2,false)]) (by kernel_rfl) (by kernel_rfl) (by kernel_rfl) u3 u4 (by kernel_rfl) (by simp)
theorem ae67 (d : Nat) : AEq Try.prog (d + 2) 67 [0, 2, 4] := aeq_array (len := 3) (elem := 3) (n := 1) (is := [0]) (by kernel_rfl) (by kernel_rfl) (peq_int u3 d)
theorem ae76 (d : Nat) : AEq Try.prog (d + 2) 76 [0, 2, 4, 6] := aeq_array (len := 4) (elem := 3) (n := 1) (is := [0]) (by kernel_rfl) (by kernel_rfl) (peq_int u3 d)
theorem pe76 (d : Nat) : PEq Try.prog (d + 2) 76 [0, 2, 4, 6] := PEq.of_agg (n := 4) (by kernel_rfl) (by kernel_rfl) (by decide) (ae76 d)
theorem ae77 (d : Nat) : AEq Try.prog (d + 3) 77 [0, 2, 4, 6, 8, 10, 12, 14, 16, 18, 20, 22, 24, 26, 28, 30] := aeq_array (len := 4) (elem := 76) (n := 4) (is := [0, 2, 4, 6]) (by kernel_rfl) (by kernel_rfl) (pe76 d)
theorem pe77 (d : Nat) : PEq Try.prog (d + 3) 77 [0, 2, 4, 6, 8, 10, 12, 14, 16, 18, 20, 22, 24, 26, 28, 30] := PEq.of_agg (n := 16) (by kernel_rfl) (by kernel_rfl) (by decide) (ae77 d)
/-- A struct's fields, by their types, places and names. -/
theorem aeq_fields {P : Program} {t : TypeId} {d : Nat} {l : List (Nat × Nat × Bool)} (ht : P.underlying t = some (.struct (P.fieldsOf t))) (hp : P.stoodInHeld t = false) (h4 : fieldSum P t = l) (g : Nat → List Nat)
    (h : ∀ q ∈ l, PEq P d q.1 (g q.1) ∧ q.2.2 = false) : AEq P (d + 1) t (l.flatMap fun q => (g q.1).map (· + 2 * q.2.1)) := by
  have hz : (P.fieldsOf t).toList.zip ((P.fieldsOf t).toList.map fun f => g f.type) = (P.fieldsOf t).toList.map fun f => (f, g f.type) := by
    generalize (P.fieldsOf t).toList = fs
    induction fs with
    | nil => rfl
    | cons f fs ih => simp [ih]
  have := aeq_struct (d := d) ht hp (iss := (P.fieldsOf t).toList.map fun f => g f.type) (by simp) (by
    rw [hz]
    intro p hp
    obtain ⟨f, hf, rfl⟩ := List.mem_map.1 hp
    have := h (f.type, f.offset, f.name == "_") (by rw [← h4]; exact List.mem_map.2 ⟨f, hf, rfl⟩)
    refine ⟨this.1, ?_⟩
    have h2 := this.2
    simpa using h2)
  rw [hz, List.flatMap_map] at this
  rw [← h4]
  unfold fieldSum
  rw [List.flatMap_map]
  exact this
theorem ae23 (d : Nat) : AEq Try.prog (d + 2) 23 [0, 2, 4] := aeq_fields (l := [(3,0,false),(3,1,false),(3,2,false)]) (by kernel_rfl) (by kernel_rfl) (by kernel_rfl) (fun _ => [0]) (by
  intro q hq
  simp at hq
  rcases hq with rfl | rfl | rfl <;> exact ⟨peq_int u3 d, rfl⟩)
theorem pe23 (d : Nat) : PEq Try.prog (d + 2) 23 [0, 2, 4] := PEq.of_agg (n := 3) (by kernel_rfl) (by kernel_rfl) (by decide) (ae23 d)
theorem ae79 (d : Nat) : AEq Try.prog (d + 4) 79 [0, 2, 4, 6, 8, 10, 12, 14, 16, 18, 20, 22, 24, 26, 28, 30, 32, 34, 36] :=
  aeq_fields (l := [(23,0,false),(77,3,false)]) (by kernel_rfl) (by kernel_rfl) (by kernel_rfl) (fun t => if t = 23 then [0, 2, 4] else [0, 2, 4, 6, 8, 10, 12, 14, 16, 18, 20, 22, 24, 26, 28, 30]) (by
  intro q hq
  simp at hq
  rcases hq with rfl | rfl
  · exact ⟨pe23 (d + 1), rfl⟩
  · exact ⟨pe77 d, rfl⟩)
theorem nogAll : (Try.prog.funcs.toList.all fun fn => !(fn.body.isSome && fn.name == "runtime.NumGoroutine")) = true := by kernel_rfl
theorem keysNodup : (siteTab.map (·.key)).Nodup := by
  have h : siteTab.map (·.key) = [8205, 968610, 549275, 856855] := by kernel_rfl
  rw [h]; decide
theorem sitesAll : (Try.prog.funcs.toList.zipIdx.all fun p => siteFns.contains p.2 || ((p.1.body.map fun c => (sitesOf c).isEmpty).getD true)) = true := by kernel_rfl
theorem site_of {f : Nat} (hf : f ∈ siteFns) {s : Site} (hs : s ∈ sitesOf (fcode f)) : gsite s.key = some s :=
  findSite_of keysNodup (List.mem_flatMap.2 ⟨f, hf, hs⟩)
theorem E_good : E.Good where
  eqt := by
    intro t xs ys r w x y hne hc
    have ht : t = 65 ∨ t = 69 ∨ t = 67 ∨ t = 76 ∨ t = 79 := by
      unfold E at hne
      simp only [beq_iff_eq] at hne
      by_cases h1 : t = 65
      · exact .inl h1
      by_cases h2 : t = 69
      · exact .inr (.inl h2)
      by_cases h3 : t = 67
      · exact .inr (.inr (.inl h3))
      by_cases h4 : t = 76
      · exact .inr (.inr (.inr (.inl h4)))
      by_cases h5 : t = 79
      · exact .inr (.inr (.inr (.inr h5)))
      simp [h1, h2, h3, h4, h5] at hne
    rcases ht with rfl | rfl | rfl | rfl | rfl
    · exact eqt_flat fl65 w x y hc
    · exact eqt_flat fl69 w x y hc
    · exact eqt_deep (by kernel_rfl) (ae67 9998) w x y hc
    · exact eqt_deep (by kernel_rfl) (ae76 9998) w x y hc
    · exact eqt_deep (by kernel_rfl) (ae79 9996) w x y hc
  nog := by
    intro f fn hf hb
    have h := List.all_eq_true.1 nogAll fn (Array.mem_toList_iff.2 (Array.mem_of_getElem? hf))
    simpa [hb] using h
  sites := by
    intro f fn c hf hc s hs
    have h := List.all_eq_true.1 sitesAll (fn, f) (by rw [List.mem_zipIdx_iff_getElem?]; have hf' : Try.prog.funcs[f]? = some fn := hf; simpa using hf')
    simp only [Bool.or_eq_true] at h
    rcases h with h | h
    · refine site_of (f := f) (by simpa using h) ?_
      have e : fcode f = c := by
        show (((E.P.funcs[f]?).bind (·.body)).getD .skip) = c
        rw [hf]
        simp [hc]
      rw [e]; exact hs
    · rw [hc] at h
      simp only [Option.map_some, Option.getD_some, List.isEmpty_iff] at h
      rw [h] at hs
      simp at hs
  tab := by
    intro k s hs
    obtain ⟨hm, _⟩ := findSite_mem hs
    obtain ⟨f, hf, hm⟩ := List.mem_flatMap.1 hm
    have := sitesOf_sub hm
    exact ⟨fun t ht => site_of hf (this.1 t ht), fun t ht => site_of hf (this.2 t ht)⟩
theorem E_mix : E.P.follows .mixedOrders = true := by kernel_rfl
end Go.AM
namespace Go.AM
open Go Go.Proofs
noncomputable def r11_L0 (call : CallF) (fuel base : Nat) (kr : Value → M → Res2) (kx0 : Value → Value → Value → Value → M → Res2) (n : Nat) : Value → Value → Value → Value → Value → M → Res2 :=
  Nat.rec (motive := fun _ => Value → Value → Value → Value → Value → M → Res2) (fun _ _ _ _ _ _ => none)
    (fun _ ih x11 x12 x15 x19 x20 m =>
      (k2 (vcall E.P base m .len [47] [x15]) fun u23 m => (k1 (mbin E .lss 3 x20 u23) fun u24 => (kb u24 (k1 (mindexAddr E.P 47 x15 x20) fun u25 => (k1 (mfieldAddr E.P 69 u25 0) fun u26 => (k1 (xload E.P m 3 u26) fun u27 => (k1 (mbin E .lss 3 u27 (.int .i64 0)) fun u28 => (kb u28 (kr (.bool false) m) (k1 (mindexAddr E.P 47 x15 x20) fun u29 => (k1 (mfieldAddr E.P 69 u29 0) fun u30 => (k1 (xload E.P m 3 u30) fun u31 => (k1 (mbin E .gtr 3 u31 (.int .i64 2)) fun u32 => (kb u32 (kr (.bool false) m) (k1 (mbin E .gtr 3 x20 (.int .i64 0)) fun u33 => (kbu u33 (k1 (mindexAddr E.P 47 x15 x20) fun u34 => (k1 (xload E.P m 69 u34) fun u35 => (k1 (mbin E .sub 3 x20 (.int .i64 1)) fun u36 => (k1 (mindexAddr E.P 47 x15 u36) fun u37 => (k1 (xload E.P m 69 u37) fun u38 => (k1 (mbin E .eql 69 u35 u38) fun u39 => (kb u39 (kr (.bool false) m) (k1 (mindexAddr E.P 47 x15 x20) fun u40 => (k1 (mfieldAddr E.P 69 u40 0) fun u41 => (k1 (xload E.P m 3 u41) fun u42 => (k1 (mindexAddr E.P 67 x19 u42) fun u43 => (k1 (xload E.P m 3 u43) fun u44 => (k1 (mbin E .add 3 u44 (.int .i64 1)) fun u45 => (k1 (mindexAddr E.P 67 x19 u42) fun u46 => (ks (xstore E.P base m 3 u46 u45) fun m => (k1 (mbin E .add 3 x20 (.int .i64 1)) fun u47 => (ih x11 x12 x15 x19 u47 m))))))))))))))))) (k1 (mindexAddr E.P 47 x15 x20) fun u48 => (k1 (mfieldAddr E.P 69 u48 0) fun u49 => (k1 (xload E.P m 3 u49) fun u50 => (k1 (mindexAddr E.P 67 x19 u50) fun u51 => (k1 (xload E.P m 3 u51) fun u52 => (k1 (mbin E .add 3 u52 (.int .i64 1)) fun u53 => (k1 (mindexAddr E.P 67 x19 u50) fun u54 => (ks (xstore E.P base m 3 u54 u53) fun m => (k1 (mbin E .add 3 x20 (.int .i64 1)) fun u55 => (ih x11 x12 x15 x19 u55 m)))))))))) (k0 (mpick undef undef (.bool false)) fun u56 => (kb u56 (kr (.bool false) m) (k1 (mindexAddr E.P 47 x15 x20) fun u57 => (k1 (mfieldAddr E.P 69 u57 0) fun u58 => (k1 (xload E.P m 3 u58) fun u59 => (k1 (mindexAddr E.P 67 x19 u59) fun u60 => (k1 (xload E.P m 3 u60) fun u61 => (k1 (mbin E .add 3 u61 (.int .i64 1)) fun u62 => (k1 (mindexAddr E.P 67 x19 u59) fun u63 => (ks (xstore E.P base m 3 u63 u62) fun m => (k1 (mbin E .add 3 x20 (.int .i64 1)) fun u64 => (ih x11 x12 x15 x19 u64 m)))))))))))))))))))))))) (kx0 x11 x12 x15 x19 m))))) n
noncomputable def r11_L2 (call : CallF) (fuel base : Nat) (kp : Value → M → Res2) (kr : Value → M → Res2) (kx2 : M → Res2) (n : Nat) : Value → Value → Value → Value → Value → M → Res2 :=
  Nat.rec (motive := fun _ => Value → Value → Value → Value → Value → M → Res2) (fun _ _ _ _ _ _ => none)
    (fun _ ih x11 x12 x15 x21 x23 m =>
      (k2 (vcall E.P base m .len [44] [x21]) fun u94 m => (k1 (mbin E .lss 3 x23 u94) fun u95 => (kb u95 (k1 (mindexAddr E.P 44 x21 x23) fun u96 => (k1 (mfieldAddr E.P 65 u96 1) fun u97 => (k1 (xload E.P m 3 u97) fun u98 => (k1 (mindexAddr E.P 33 x12 u98) fun u99 => (k1 (xload E.P m 27 u99) fun u100 => (k1 (mindexAddr E.P 44 x21 x23) fun u101 => (k1 (mfieldAddr E.P 65 u101 0) fun u102 => (k1 (xload E.P m 3 u102) fun u103 => (k1 (mindexAddr E.P 27 u100 u103) fun u104 => (k1 (xload E.P m 3 u104) fun u105 => (k1 (mbin E .add 3 u105 (.int .i64 1)) fun u106 => (k1 (mindexAddr E.P 27 u100 u103) fun u107 => (ks (xstore E.P base m 3 u107 u106) fun m => (k1 (xload E.P m 23 x11) fun u108 => (kc (call base 33 [u108, x12] m) (fun u109 m => (k1 (mextract 0 u109) fun u110 => (k1 (mextract 1 u109) fun u111 => (k1 (mindexAddr E.P 44 x21 x23) fun u112 => (k1 (mfieldAddr E.P 65 u112 1) fun u113 => (k1 (xload E.P m 3 u113) fun u114 => (k1 (mindexAddr E.P 33 x12 u114) fun u115 => (k1 (xload E.P m 27 u115) fun u116 => (k1 (mindexAddr E.P 44 x21 x23) fun u117 => (k1 (mfieldAddr E.P 65 u117 0) fun u118 => (k1 (xload E.P m 3 u118) fun u119 => (k1 (mindexAddr E.P 27 u116 u119) fun u120 => (k1 (xload E.P m 3 u120) fun u121 => (k1 (mbin E .sub 3 u121 (.int .i64 1)) fun u122 => (k1 (mindexAddr E.P 27 u116 u119) fun u123 => (ks (xstore E.P base m 3 u123 u122) fun m => (k1 (mbin E .neq 24 u111 (.int .i64 0)) fun u124 => (kb u124 (kr (.bool false) m) (kc (call base 46 [x15, u110] m) (fun u125 m => (k1 (mbin E .neq 3 u125 (.int .i64 3)) fun u126 => (kb u126 (kr (.bool false) m) (k1 (mbin E .add 3 x23 (.int .i64 1)) fun u127 => (ih x11 x12 x15 x21 u127 m))))) (fun v m => kp v m)))))))))))))))))))) (fun v m => kp v m)))))))))))))))) (kx2 m))))) n
noncomputable def r11 (call : CallF) (fuel base : Nat) (x0 : Value) (x1 : Value) (x2 : Value) (x3 : Value) (x4 : Value) (m : M) : Res2 :=
  (kc (call base 42 [x0, x1, x2, x3] m) (fun u1 m => (k1 (mextract 0 u1) fun u2 => (k1 (mextract 1 u1) fun u3 => (k2 (xalloc E.P m 23) fun u4 m => (ks (xstore E.P base m 23 u4 u2) fun m => (kc (call base 42 [x0, x1, x2, x4] m) (fun u5 m => (k1 (mextract 0 u5) fun u6 => (k1 (mextract 1 u5) fun u7 => (k2 (xalloc E.P m 23) fun u8 m => (ks (xstore E.P base m 23 u8 u6) fun m => (k1 (xload E.P m 23 u4) fun u9 => (kc (call base 33 [u9, u3] m) (fun u10 m => (k1 (mextract 0 u10) fun u11 => (k1 (mextract 1 u10) fun u12 => (k1 (xload E.P m 23 u4) fun u13 => (kc (call base 33 [u13, u7] m) (fun u14 m => (k1 (mextract 0 u14) fun u15 => (k1 (mextract 1 u14) fun u16 => (k1 (mbin E .neq 24 u12 (.int .i64 0)) fun u17 => (kb u17 (fVal (.bool false) fun v => some (.ret v, m)) (k1 (mbin E .neq 24 u16 (.int .i64 0)) fun u18 => (kb u18 (fVal (.bool false) fun v => some (.ret v, m)) (kc (call base 37 [u11, u15] m) (fun u19 m => (kc (call base 26 [u3, u7] m) (fun u20 m => (k1 (mbin E .neq 4 u19 u20) fun u21 => (kb u21 (fVal (.bool false) fun v => some (.ret v, m)) (k2 (xalloc E.P m 67) fun u22 m => (r11_L0 call fuel base (fun w65 m => (fVal w65 fun v => some (.ret v, m))) (fun w66 w67 w68 w69 m => (k1 (xload E.P m 67 w69) fun u70 => (k1 (mfieldAddr E.P 23 w66 0) fun u71 => (k1 (xload E.P m 3 u71) fun u72 => (k1 (mfieldAddr E.P 23 w66 1) fun u73 => (k1 (xload E.P m 3 u73) fun u74 => (k1 (mbin E .mul 3 u72 u74) fun u75 => (k1 (mfieldAddr E.P 23 w66 0) fun u76 => (k1 (xload E.P m 3 u76) fun u77 => (k1 (mfieldAddr E.P 23 w66 2) fun u78 => (k1 (xload E.P m 3 u78) fun u79 => (k1 (mbin E .mul 3 u77 u79) fun u80 => (k1 (mfieldAddr E.P 23 w66 1) fun u81 => (k1 (xload E.P m 3 u81) fun u82 => (k1 (mfieldAddr E.P 23 w66 2) fun u83 => (k1 (xload E.P m 3 u83) fun u84 => (k1 (mbin E .mul 3 u82 u84) fun u85 => (k1 (mbuild E.P 67 [(0, u75), (1, u80), (2, u85)]) fun u86 => (k1 (mbin E .neq 67 u70 u86) fun u87 => (kb u87 (fVal (.bool false) fun v => some (.ret v, m)) (k1 (xload E.P m 23 w66) fun u88 => (kc (call base 32 [u88, w67] m) (fun u89 m => (k1 (mextract 0 u89) fun u90 => (k1 (mextract 1 u89) fun u91 => (k1 (mextract 2 u89) fun u92 => (k1 (mbin E .neq 24 u92 (.int .i64 0)) fun u93 => (kb u93 (fVal (.bool false) fun v => some (.ret v, m)) (r11_L2 call fuel base (fun v m => some (.pan v, m)) (fun w128 m => (fVal w128 fun v => some (.ret v, m))) (fun m => (kc (call base 19 [] m) (fun u129 m => (fVal u129 fun v => some (.ret v, m))) (fun v m => some (.pan v, m)))) fuel w66 w67 w68 u90 (.int .i64 0) m))))))) (fun v m => some (.pan v, m)))))))))))))))))))))))) fuel u4 u3 u11 u22 (.int .i64 0) m))))) (fun v m => some (.pan v, m)))) (fun v m => some (.pan v, m)))))))))) (fun v m => some (.pan v, m))))))) (fun v m => some (.pan v, m))))))))) (fun v m => some (.pan v, m)))))))) (fun v m => some (.pan v, m)))
def keep11 : Keep := { region := fun i => ([[0, 1, 2, 3, 4], [0, 1, 2, 4, 11, 12], [11, 12, 14], [11, 12, 14, 15, 16], [11, 12, 14, 15, 16, 17, 18], [11, 12, 15, 68], [10], [11, 12, 15, 19], [11, 12, 15, 19, 20], [11, 12, 15, 19, 20, 72], [11, 12, 15, 19, 20], [11, 12, 15, 19, 20, 104], [10], [11, 12, 15, 19, 20], [11, 12, 15, 131], [10], [11, 12, 15, 16, 21], [11, 12, 15, 21, 140], [10], [11, 12, 15, 21, 23], [11, 12, 15, 21, 23, 144], [11, 12, 15, 21, 23], [11, 12, 15, 21, 23], [11, 12, 15, 21, 23, 24, 25], [11, 12, 15, 21, 23, 24, 25], [11, 12, 15, 21, 23, 194], [10], [10]] : List (List Nat))[i]?, exit := fun i => ([[11, 12, 15, 19], [11, 12, 15, 19, 20], [], [11, 12, 15, 21, 23]] : List (List Nat))[i]?, ret := some [10] }
noncomputable def r11_L0_R (call : CallF) (fuel base n : Nat) (vs : List Value) (m : M) (K : KT) : Res2 := match vs with
  | [x11, x12, x15, x19, x20] => r11_L0 call fuel base (fun y10 m => K .ret { n := 196, l := [(10, y10)] } m) (fun y11 y12 y15 y19 m => K (.exit 0) { n := 196, l := [(11, y11), (12, y12), (15, y15), (19, y19)] } m) n x11 x12 x15 x19 x20 m
  | _ => none
noncomputable def r11_L2_R (call : CallF) (fuel base n : Nat) (vs : List Value) (m : M) (K : KT) : Res2 := match vs with
  | [x11, x12, x15, x21, x23] => r11_L2 call fuel base (fun v m => K (.pan v) { n := 196, l := [] } m) (fun y10 m => K .ret { n := 196, l := [(10, y10)] } m) (fun m => K (.exit 2) { n := 196, l := [] } m) n x11 x12 x15 x21 x23 m
  | _ => none
noncomputable def lp11 (call : CallF) (fuel base : Nat) : Lp := lpsel [(0, fun T m K => kslots 196 [11, 12, 15, 19, 20] T fun vs => r11_L0_R call fuel base fuel vs m K), (2, fun T m K => kslots 196 [11, 12, 15, 21, 23] T fun vs => r11_L2_R call fuel base fuel vs m K)]
noncomputable def c11 : Code := Try.f11.body.getD .skip
theorem r11_L0_lk (call : CallF) (fuel base : Nat) : LoopsOk E call (lp11 call fuel base) fuel base 0 (loopB (blockB (seqR (seqL (seqR (seqR (seqR (seqR (seqR (seqR (seqR c11))))))))))) = (And (And True (And True True)) (And (And (And True (And (And True True) True)) True) True)) := by kernel_rfl
theorem r11_L0_ok (call : CallF) (fuel base : Nat) : LpOk E call (lp11 call fuel base) fuel base 0 (loopB (blockB (seqR (seqL (seqR (seqR (seqR (seqR (seqR (seqR (seqR c11))))))))))) := by
  refine loop_ok (kp := keep11) (hb := Eq.mpr (r11_L0_lk call fuel base) (And.intro (And.intro trivial (And.intro trivial trivial)) (And.intro (And.intro (And.intro trivial (And.intro (And.intro trivial trivial) trivial)) trivial) trivial))) 196 [11, 12, 15, 19, 20] (fun n vs m K => r11_L0_R call fuel base n vs m K) ?_ ?_ (fun _ _ _ => rfl)
  · intro vs m K
    unfold r11_L0_R
    split <;> rfl
  · intro n vs m K hl
    match vs, hl with
    | [x11, x12, x15, x19, x20], _ => show _ = _; kernel_rfl
theorem r11_L2_lk (call : CallF) (fuel base : Nat) : LoopsOk E call (lp11 call fuel base) fuel base 2 (loopB (blockB (seqR (seqL (seqR (seqR (seqR (seqR (seqR (seqR (seqR (seqR (seqR (seqR (seqR c11))))))))))))))) = (And (And True (And True True)) (And (And True (And True (And True (And True (And (And True True) True))))) True)) := by kernel_rfl
theorem r11_L2_ok (call : CallF) (fuel base : Nat) : LpOk E call (lp11 call fuel base) fuel base 2 (loopB (blockB (seqR (seqL (seqR (seqR (seqR (seqR (seqR (seqR (seqR (seqR (seqR (seqR (seqR c11))))))))))))))) := by
  refine loop_ok (kp := keep11) (hb := Eq.mpr (r11_L2_lk call fuel base) (And.intro (And.intro trivial (And.intro trivial trivial)) (And.intro (And.intro trivial (And.intro trivial (And.intro trivial (And.intro trivial (And.intro (And.intro trivial trivial) trivial))))) trivial))) 196 [11, 12, 15, 21, 23] (fun n vs m K => r11_L2_R call fuel base n vs m K) ?_ ?_ (fun _ _ _ => rfl)
  · intro vs m K
    unfold r11_L2_R
    split <;> rfl
  · intro n vs m K hl
    match vs, hl with
    | [x11, x12, x15, x21, x23], _ => show _ = _; kernel_rfl
theorem r11_eq (call : CallF) (fuel base : Nat) (x0 : Value) (x1 : Value) (x2 : Value) (x3 : Value) (x4 : Value) (m : M) : kbody E call keep11 (lp11 call fuel base) base Try.f11 [x0, x1, x2, x3, x4] m = r11 call fuel base x0 x1 x2 x3 x4 m := by
  kernel_rfl
noncomputable def rf11 : RF := fun call fuel base args m => match args with
  | [x0, x1, x2, x3, x4] => r11 call fuel base x0 x1 x2 x3 x4 m
  | _ => none
theorem r11_lk (call : CallF) (fuel base : Nat) : LoopsOk E call (lp11 call fuel base) fuel base 0 c11 = (And True (And True (And True (And True (And True (And (And True (And (And True True) True)) (And True (And (And True (LpOk E call (lp11 call fuel base) fuel base 0 (loopB (blockB (seqR (seqL (seqR (seqR (seqR (seqR (seqR (seqR (seqR c11))))))))))))) (And (And True (And (And True True) True)) (And True (And (And True (And (And True True) True)) (And (And True (LpOk E call (lp11 call fuel base) fuel base 2 (loopB (blockB (seqR (seqL (seqR (seqR (seqR (seqR (seqR (seqR (seqR (seqR (seqR (seqR (seqR c11))))))))))))))))) (And True True))))))))))))) := by kernel_rfl
theorem r11_fn : E.P.funcs[11]? = some Try.f11 := by kernel_rfl
theorem r11_body : Try.f11.body = some c11 := by kernel_rfl
theorem rf11_ok : RFok E 11 rf11 := by
  show RFok' E 11 rf11
  refine ⟨Try.f11, r11_fn, fun call fuel base args m r _ h => ?_⟩
  unfold rf11 at h
  split at h
  · rw [← r11_eq] at h
    exact kbody_sound (c := c11) r11_body (Eq.mpr (r11_lk call fuel base) (And.intro trivial (And.intro trivial (And.intro trivial (And.intro trivial (And.intro trivial (And.intro (And.intro trivial (And.intro (And.intro trivial trivial) trivial)) (And.intro trivial (And.intro (And.intro trivial (r11_L0_ok call fuel base)) (And.intro (And.intro trivial (And.intro (And.intro trivial trivial) trivial)) (And.intro trivial (And.intro (And.intro trivial (And.intro (And.intro trivial trivial) trivial)) (And.intro (And.intro trivial (r11_L2_ok call fuel base)) (And.intro trivial trivial)))))))))))))) h
  · simp at h
end Go.AM
namespace Go.AM
open Go Go.Proofs
noncomputable def r12 (call : CallF) (fuel base : Nat) (x0 : Value) (m : M) : Res2 :=
  (k2 (xbox m x0) fun u1 m => (k1 (xload E.P m 23 u1) fun u2 => (kc (call base 47 [u2] m) (fun u3 m => (k1 (mun .not u3) fun u4 => (kb u4 (some (.ret (.tuple #[(.int .i64 0), (.int .i64 2)]), m)) (k1 (xload E.P m 23 u1) fun u5 => (kc (call base 48 [u5] m) (fun u6 m => (some (.ret (.tuple #[u6, (.int .i64 0)]), m))) (fun v m => some (.pan v, m))))))) (fun v m => some (.pan v, m)))))
def keep12 : Keep := { region := fun i => ([[1], [1, 6], [2, 3], [2, 3]] : List (List Nat))[i]?, exit := fun i => ([] : List (List Nat))[i]?, ret := some [2, 3] }
noncomputable def lp12 (call : CallF) (fuel base : Nat) : Lp := lpsel []
noncomputable def c12 : Code := Try.f12.body.getD .skip
theorem r12_eq (call : CallF) (fuel base : Nat) (x0 : Value) (m : M) : kbody E call keep12 (lp12 call fuel base) base Try.f12 [x0] m = r12 call fuel base x0 m := by
  kernel_rfl
noncomputable def rf12 : RF := fun call fuel base args m => match args with
  | [x0] => r12 call fuel base x0 m
  | _ => none
theorem r12_lk (call : CallF) (fuel base : Nat) : LoopsOk E call (lp12 call fuel base) fuel base 0 c12 = (And True (And (And True (And (And True True) True)) (And True True))) := by kernel_rfl
theorem r12_fn : E.P.funcs[12]? = some Try.f12 := by kernel_rfl
theorem r12_body : Try.f12.body = some c12 := by kernel_rfl
theorem rf12_ok : RFok E 12 rf12 := by
  show RFok' E 12 rf12
  refine ⟨Try.f12, r12_fn, fun call fuel base args m r _ h => ?_⟩
  unfold rf12 at h
  split at h
  · rw [← r12_eq] at h
    exact kbody_sound (c := c12) r12_body (Eq.mpr (r12_lk call fuel base) (And.intro trivial (And.intro (And.intro trivial (And.intro (And.intro trivial trivial) trivial)) (And.intro trivial trivial)))) h
  · simp at h
end Go.AM
namespace Go.AM
open Go Go.Proofs
noncomputable def r14 (call : CallF) (fuel base : Nat) (x0 : Value) (m : M) : Res2 :=
  (k2 (xbox m x0) fun u1 m => (k1 (xload E.P m 23 u1) fun u2 => (kc (call base 47 [u2] m) (fun u3 m => (k1 (mun .not u3) fun u4 => (kb u4 (some (.ret (.tuple #[(.int .i64 0), (.int .i64 2)]), m)) (k1 (xload E.P m 23 u1) fun u5 => (kc (call base 49 [u5] m) (fun u6 m => (some (.ret (.tuple #[u6, (.int .i64 0)]), m))) (fun v m => some (.pan v, m))))))) (fun v m => some (.pan v, m)))))
def keep14 : Keep := { region := fun i => ([[1], [1, 6], [2, 3], [2, 3]] : List (List Nat))[i]?, exit := fun i => ([] : List (List Nat))[i]?, ret := some [2, 3] }
noncomputable def lp14 (call : CallF) (fuel base : Nat) : Lp := lpsel []
noncomputable def c14 : Code := Try.f14.body.getD .skip
theorem r14_eq (call : CallF) (fuel base : Nat) (x0 : Value) (m : M) : kbody E call keep14 (lp14 call fuel base) base Try.f14 [x0] m = r14 call fuel base x0 m := by
  kernel_rfl
noncomputable def rf14 : RF := fun call fuel base args m => match args with
  | [x0] => r14 call fuel base x0 m
  | _ => none
theorem r14_lk (call : CallF) (fuel base : Nat) : LoopsOk E call (lp14 call fuel base) fuel base 0 c14 = (And True (And (And True (And (And True True) True)) (And True True))) := by kernel_rfl
theorem r14_fn : E.P.funcs[14]? = some Try.f14 := by kernel_rfl
theorem r14_body : Try.f14.body = some c14 := by kernel_rfl
theorem rf14_ok : RFok E 14 rf14 := by
  show RFok' E 14 rf14
  refine ⟨Try.f14, r14_fn, fun call fuel base args m r _ h => ?_⟩
  unfold rf14 at h
  split at h
  · rw [← r14_eq] at h
    exact kbody_sound (c := c14) r14_body (Eq.mpr (r14_lk call fuel base) (And.intro trivial (And.intro (And.intro trivial (And.intro (And.intro trivial trivial) trivial)) (And.intro trivial trivial)))) h
  · simp at h
end Go.AM
namespace Go.AM
open Go Go.Proofs
noncomputable def r15_L2 (call : CallF) (fuel base : Nat) (kp : Value → M → Res2) (kx2 : Value → Value → Value → Value → M → Res2) (n : Nat) : Value → Value → Value → Value → Value → M → Res2 :=
  Nat.rec (motive := fun _ => Value → Value → Value → Value → Value → M → Res2) (fun _ _ _ _ _ _ => none)
    (fun _ ih x1 x4 x5 x6 x7 m =>
      (k1 (mfieldAddr E.P 23 x1 0) fun u8 => (k1 (xload E.P m 3 u8) fun u9 => (k1 (mbin E .lss 3 x7 u9) fun u10 => (kb u10 (k1 (mfieldAddr E.P 23 x1 1) fun u11 => (k1 (xload E.P m 3 u11) fun u12 => (k1 (mfieldAddr E.P 23 x1 2) fun u13 => (k1 (xload E.P m 3 u13) fun u14 => (k1 (mbin E .add 3 u12 u14) fun u15 => (k1 (mfieldAddr E.P 23 x1 1) fun u16 => (k1 (xload E.P m 3 u16) fun u17 => (k1 (mbin E .sub 3 u17 x5) fun u18 => (k1 (mbin E .add 3 u18 x7) fun u19 => (kc (call base 51 [u15, u19] m) (fun u20 m => (k2 (xbuildSlice E.P m 27 1 [(0, u20)]) fun u21 m => (k2 (vcall E.P base m .append [27, 27] [x6, u21]) fun u22 m => (k1 (mbin E .add 3 x7 (.int .i64 1)) fun u23 => (ih x1 x4 x5 u22 u23 m))))) (fun v m => kp v m))))))))))) (kx2 x1 x4 x5 x6 m)))))) n
noncomputable def r15_L0 (call : CallF) (fuel base : Nat) (kp : Value → M → Res2) (kx0 : Value → M → Res2) (n : Nat) : Value → Value → Value → M → Res2 :=
  Nat.rec (motive := fun _ => Value → Value → Value → M → Res2) (fun _ _ _ _ => none)
    (fun _ ih x1 x4 x5 m =>
      (k1 (mfieldAddr E.P 23 x1 0) fun u5 => (k1 (xload E.P m 3 u5) fun u6 => (k1 (mbin E .lss 3 x5 u6) fun u7 => (kb u7 (r15_L2 call fuel base (fun v m => kp v m) (fun w24 w25 w26 w27 m => (k2 (xbuildSlice E.P m 33 1 [(0, w27)]) fun u28 m => (k2 (vcall E.P base m .append [33, 33] [w25, u28]) fun u29 m => (k1 (mbin E .add 3 w26 (.int .i64 1)) fun u30 => (ih w24 u29 u30 m))))) fuel x1 x4 x5 (.slice none 0 0) (.int .i64 0) m) (kx0 x4 m)))))) n
noncomputable def r15 (call : CallF) (fuel base : Nat) (x0 : Value) (m : M) : Res2 :=
  (k2 (xbox m x0) fun u1 m => (k1 (xload E.P m 23 u1) fun u2 => (kc (call base 50 [u2] m) (fun u3 m => (k1 (mun .not u3) fun u4 => (kb u4 (some (.ret (.tuple #[(.int .i64 0), (.int .i64 2)]), m)) (r15_L0 call fuel base (fun v m => some (.pan v, m)) (fun w31 m => (kc (call base 52 [w31] m) (fun u32 m => (some (.ret (.tuple #[u32, (.int .i64 0)]), m))) (fun v m => some (.pan v, m)))) fuel u1 (.slice none 0 0) (.int .i64 0) m)))) (fun v m => some (.pan v, m)))))
def keep15 : Keep := { region := fun i => ([[1], [1, 10], [2, 3], [1, 4], [1, 4, 5], [1, 4, 5, 14], [1, 4, 5], [1, 4, 5, 6], [1, 4, 5, 6, 7], [1, 4, 5, 6, 7, 20], [1, 4, 5, 6, 7], [1, 4, 5, 6, 7], [1, 4, 5], [2, 3]] : List (List Nat))[i]?, exit := fun i => ([[4], [1, 4, 5], [1, 4, 5, 6], [1, 4, 5, 6, 7]] : List (List Nat))[i]?, ret := some [2, 3] }
noncomputable def r15_L2_R (call : CallF) (fuel base n : Nat) (vs : List Value) (m : M) (K : KT) : Res2 := match vs with
  | [x1, x4, x5, x6, x7] => r15_L2 call fuel base (fun v m => K (.pan v) { n := 44, l := [] } m) (fun y1 y4 y5 y6 m => K (.exit 2) { n := 44, l := [(1, y1), (4, y4), (5, y5), (6, y6)] } m) n x1 x4 x5 x6 x7 m
  | _ => none
noncomputable def r15_L0_R (call : CallF) (fuel base n : Nat) (vs : List Value) (m : M) (K : KT) : Res2 := match vs with
  | [x1, x4, x5] => r15_L0 call fuel base (fun v m => K (.pan v) { n := 44, l := [] } m) (fun y4 m => K (.exit 0) { n := 44, l := [(4, y4)] } m) n x1 x4 x5 m
  | _ => none
noncomputable def lp15 (call : CallF) (fuel base : Nat) : Lp := lpsel [(2, fun T m K => kslots 44 [1, 4, 5, 6, 7] T fun vs => r15_L2_R call fuel base fuel vs m K), (0, fun T m K => kslots 44 [1, 4, 5] T fun vs => r15_L0_R call fuel base fuel vs m K)]
noncomputable def c15 : Code := Try.f15.body.getD .skip
theorem r15_L2_lk (call : CallF) (fuel base : Nat) : LoopsOk E call (lp15 call fuel base) fuel base 2 (loopB (blockB (seqR (seqL (seqR (blockB (seqL (seqR (loopB (blockB (seqR (seqL (seqR (seqR (seqR c15))))))))))))))) = (And (And True (And True True)) (And True True)) := by kernel_rfl
theorem r15_L2_ok (call : CallF) (fuel base : Nat) : LpOk E call (lp15 call fuel base) fuel base 2 (loopB (blockB (seqR (seqL (seqR (blockB (seqL (seqR (loopB (blockB (seqR (seqL (seqR (seqR (seqR c15))))))))))))))) := by
  refine loop_ok (kp := keep15) (hb := Eq.mpr (r15_L2_lk call fuel base) (And.intro (And.intro trivial (And.intro trivial trivial)) (And.intro trivial trivial))) 44 [1, 4, 5, 6, 7] (fun n vs m K => r15_L2_R call fuel base n vs m K) ?_ ?_ (fun _ _ _ => rfl)
  · intro vs m K
    unfold r15_L2_R
    split <;> rfl
  · intro n vs m K hl
    match vs, hl with
    | [x1, x4, x5, x6, x7], _ => show _ = _; kernel_rfl
theorem r15_L0_lk (call : CallF) (fuel base : Nat) : LoopsOk E call (lp15 call fuel base) fuel base 0 (loopB (blockB (seqR (seqL (seqR (seqR (seqR c15))))))) = (And (And True (And True True)) (And (And True (And (And True (LpOk E call (lp15 call fuel base) fuel base 2 (loopB (blockB (seqR (seqL (seqR (blockB (seqL (seqR (loopB (blockB (seqR (seqL (seqR (seqR (seqR c15))))))))))))))))) True)) True)) := by kernel_rfl
theorem r15_L0_ok (call : CallF) (fuel base : Nat) : LpOk E call (lp15 call fuel base) fuel base 0 (loopB (blockB (seqR (seqL (seqR (seqR (seqR c15))))))) := by
  refine loop_ok (kp := keep15) (hb := Eq.mpr (r15_L0_lk call fuel base) (And.intro (And.intro trivial (And.intro trivial trivial)) (And.intro (And.intro trivial (And.intro (And.intro trivial (r15_L2_ok call fuel base)) trivial)) trivial))) 44 [1, 4, 5] (fun n vs m K => r15_L0_R call fuel base n vs m K) ?_ ?_ (fun _ _ _ => rfl)
  · intro vs m K
    unfold r15_L0_R
    split <;> rfl
  · intro n vs m K hl
    match vs, hl with
    | [x1, x4, x5], _ => show _ = _; kernel_rfl
theorem r15_eq (call : CallF) (fuel base : Nat) (x0 : Value) (m : M) : kbody E call keep15 (lp15 call fuel base) base Try.f15 [x0] m = r15 call fuel base x0 m := by
  kernel_rfl
noncomputable def rf15 : RF := fun call fuel base args m => match args with
  | [x0] => r15 call fuel base x0 m
  | _ => none
theorem r15_lk (call : CallF) (fuel base : Nat) : LoopsOk E call (lp15 call fuel base) fuel base 0 c15 = (And True (And (And True (And (And True True) True)) (And True (And (And True (LpOk E call (lp15 call fuel base) fuel base 0 (loopB (blockB (seqR (seqL (seqR (seqR (seqR c15))))))))) (And True True))))) := by kernel_rfl
theorem r15_fn : E.P.funcs[15]? = some Try.f15 := by kernel_rfl
theorem r15_body : Try.f15.body = some c15 := by kernel_rfl
theorem rf15_ok : RFok E 15 rf15 := by
  show RFok' E 15 rf15
  refine ⟨Try.f15, r15_fn, fun call fuel base args m r _ h => ?_⟩
  unfold rf15 at h
  split at h
  · rw [← r15_eq] at h
    exact kbody_sound (c := c15) r15_body (Eq.mpr (r15_lk call fuel base) (And.intro trivial (And.intro (And.intro trivial (And.intro (And.intro trivial trivial) trivial)) (And.intro trivial (And.intro (And.intro trivial (r15_L0_ok call fuel base)) (And.intro trivial trivial)))))) h
  · simp at h
end Go.AM
namespace Go.AM
open Go Go.Proofs
noncomputable def r19 (call : CallF) (fuel base : Nat) (m : M) : Res2 :=
  (k1 (mbuild E.P 23 [(0, (.int .i64 2)), (1, (.int .i64 2)), (2, (.int .i64 2))]) fun u1 => (k2 (xalloc E.P m 23) fun u2 m => (ks (xstore E.P base m 23 u2 u1) fun m => (k1 (xload E.P m 23 u2) fun u3 => (kc (call base 12 [u3] m) (fun u4 m => (k1 (mextract 0 u4) fun u5 => (k1 (mextract 1 u4) fun u6 => (k1 (xload E.P m 23 u2) fun u7 => (kc (call base 14 [u7] m) (fun u8 m => (k1 (mextract 0 u8) fun u9 => (k1 (mextract 1 u8) fun u10 => (k1 (xload E.P m 23 u2) fun u11 => (k2 (xbuildSlice E.P m 27 2 [(0, (.int .i64 2)), (1, (.int .i64 1))]) fun u12 m => (k2 (xbuildSlice E.P m 27 2 [(0, (.int .i64 1)), (1, (.int .i64 0))]) fun u13 m => (k2 (xbuildSlice E.P m 33 2 [(0, u12), (1, u13)]) fun u14 m => (kc (call base 24 [u11, u14] m) (fun u15 m => (k1 (mextract 0 u15) fun u16 => (k1 (mextract 1 u15) fun u17 => (k1 (mbin E .eql 24 u6 (.int .i64 0)) fun u18 => (kb u18 (k1 (mbin E .eql 3 u5 (.int .i64 20)) fun u19 => (kb u19 (k1 (mbin E .eql 24 u10 (.int .i64 0)) fun u20 => (kb u20 (k1 (mbin E .eql 3 u9 (.int .i64 20)) fun u21 => (kb u21 (k1 (mbin E .eql 24 u17 (.int .i64 0)) fun u22 => (kb u22 (k1 (mbin E .eql 3 u16 (.int .i64 10)) fun u23 => (fVal u23 fun v => some (.ret v, m))) (fVal (.bool false) fun v => some (.ret v, m)))) (fVal (.bool false) fun v => some (.ret v, m)))) (fVal (.bool false) fun v => some (.ret v, m)))) (fVal (.bool false) fun v => some (.ret v, m)))) (fVal (.bool false) fun v => some (.ret v, m))))))) (fun v m => some (.pan v, m)))))))))) (fun v m => some (.pan v, m))))))) (fun v m => some (.pan v, m)))))))
def keep19 : Keep := { region := fun i => ([[], [1], [1, 2, 3], [1, 2, 3, 4, 5], [2, 3, 4, 5, 6, 7], [0]] : List (List Nat))[i]?, exit := fun i => ([] : List (List Nat))[i]?, ret := some [0] }
noncomputable def lp19 (call : CallF) (fuel base : Nat) : Lp := lpsel []
noncomputable def c19 : Code := Try.f19.body.getD .skip
theorem r19_eq (call : CallF) (fuel base : Nat) (m : M) : kbody E call keep19 (lp19 call fuel base) base Try.f19 [] m = r19 call fuel base  m := by
  kernel_rfl
noncomputable def rf19 : RF := fun call fuel base args m => match args with
  | [] => r19 call fuel base  m
  | _ => none
theorem r19_lk (call : CallF) (fuel base : Nat) : LoopsOk E call (lp19 call fuel base) fuel base 0 c19 = (And True (And True (And True (And True (And True (And True True)))))) := by kernel_rfl
theorem r19_fn : E.P.funcs[19]? = some Try.f19 := by kernel_rfl
theorem r19_body : Try.f19.body = some c19 := by kernel_rfl
theorem rf19_ok : RFok E 19 rf19 := by
  show RFok' E 19 rf19
  refine ⟨Try.f19, r19_fn, fun call fuel base args m r _ h => ?_⟩
  unfold rf19 at h
  split at h
  · rw [← r19_eq] at h
    exact kbody_sound (c := c19) r19_body (Eq.mpr (r19_lk call fuel base) (And.intro trivial (And.intro trivial (And.intro trivial (And.intro trivial (And.intro trivial (And.intro trivial trivial))))))) h
  · simp at h
end Go.AM
namespace Go.AM
open Go Go.Proofs
noncomputable def r24 (call : CallF) (fuel base : Nat) (x0 : Value) (x1 : Value) (m : M) : Res2 :=
  (k2 (xbox m x0) fun u1 m => (k1 (xload E.P m 23 u1) fun u2 => (kc (call base 56 [u2, x1] m) (fun u3 m => (k1 (mextract 0 u3) fun u4 => (k1 (mextract 1 u3) fun u5 => (k2 (xalloc E.P m 79) fun u6 m => (ks (xstore E.P base m 79 u6 u4) fun m => (k1 (mbin E .neq 24 u5 (.int .i64 0)) fun u7 => (kb u7 (some (.ret (.tuple #[(.int .i64 0), u5]), m)) (k1 (xload E.P m 79 u6) fun u8 => (kc (call base 57 [u8] m) (fun u9 m => (some (.ret (.tuple #[u9, (.int .i64 0)]), m))) (fun v m => some (.pan v, m))))))))))) (fun v m => some (.pan v, m)))))
def keep24 : Keep := { region := fun i => ([[1, 2], [6, 7], [6, 7, 15], [4, 5], [4, 5]] : List (List Nat))[i]?, exit := fun i => ([] : List (List Nat))[i]?, ret := some [4, 5] }
noncomputable def lp24 (call : CallF) (fuel base : Nat) : Lp := lpsel []
noncomputable def c24 : Code := Try.f24.body.getD .skip
theorem r24_eq (call : CallF) (fuel base : Nat) (x0 : Value) (x1 : Value) (m : M) : kbody E call keep24 (lp24 call fuel base) base Try.f24 [x0, x1] m = r24 call fuel base x0 x1 m := by
  kernel_rfl
noncomputable def rf24 : RF := fun call fuel base args m => match args with
  | [x0, x1] => r24 call fuel base x0 x1 m
  | _ => none
theorem r24_lk (call : CallF) (fuel base : Nat) : LoopsOk E call (lp24 call fuel base) fuel base 0 c24 = (And True (And True (And (And True (And (And True True) True)) (And True True)))) := by kernel_rfl
theorem r24_fn : E.P.funcs[24]? = some Try.f24 := by kernel_rfl
theorem r24_body : Try.f24.body = some c24 := by kernel_rfl
theorem rf24_ok : RFok E 24 rf24 := by
  show RFok' E 24 rf24
  refine ⟨Try.f24, r24_fn, fun call fuel base args m r _ h => ?_⟩
  unfold rf24 at h
  split at h
  · rw [← r24_eq] at h
    exact kbody_sound (c := c24) r24_body (Eq.mpr (r24_lk call fuel base) (And.intro trivial (And.intro trivial (And.intro (And.intro trivial (And.intro (And.intro trivial trivial) trivial)) (And.intro trivial trivial))))) h
  · simp at h
end Go.AM
namespace Go.AM
open Go Go.Proofs
noncomputable def r26_L2 (call : CallF) (fuel base : Nat) (kr : Value → M → Res2) (kx2 : Value → Value → Value → M → Res2) (n : Nat) : Value → Value → Value → Value → M → Res2 :=
  Nat.rec (motive := fun _ => Value → Value → Value → Value → M → Res2) (fun _ _ _ _ _ => none)
    (fun _ ih x0 x1 x5 x6 m =>
      (k1 (mindexAddr E.P 33 x0 x5) fun u13 => (k1 (xload E.P m 27 u13) fun u14 => (k2 (vcall E.P base m .len [27] [u14]) fun u15 m => (k1 (mbin E .lss 3 x6 u15) fun u16 => (kb u16 (k1 (mindexAddr E.P 33 x0 x5) fun u17 => (k1 (xload E.P m 27 u17) fun u18 => (k1 (mindexAddr E.P 27 u18 x6) fun u19 => (k1 (xload E.P m 3 u19) fun u20 => (k1 (mindexAddr E.P 33 x1 x5) fun u21 => (k1 (xload E.P m 27 u21) fun u22 => (k1 (mindexAddr E.P 27 u22 x6) fun u23 => (k1 (xload E.P m 3 u23) fun u24 => (k1 (mbin E .neq 3 u20 u24) fun u25 => (kb u25 (kr (.bool false) m) (k1 (mbin E .add 3 x6 (.int .i64 1)) fun u26 => (ih x0 x1 x5 u26 m)))))))))))) (kx2 x0 x1 x5 m))))))) n
noncomputable def r26_L0 (call : CallF) (fuel base : Nat) (kr : Value → M → Res2) (kx0 : M → Res2) (n : Nat) : Value → Value → Value → M → Res2 :=
  Nat.rec (motive := fun _ => Value → Value → Value → M → Res2) (fun _ _ _ _ => none)
    (fun _ ih x0 x1 x5 m =>
      (k2 (vcall E.P base m .len [33] [x0]) fun u4 m => (k1 (mbin E .lss 3 x5 u4) fun u5 => (kb u5 (k1 (mindexAddr E.P 33 x0 x5) fun u6 => (k1 (xload E.P m 27 u6) fun u7 => (k2 (vcall E.P base m .len [27] [u7]) fun u8 m => (k1 (mindexAddr E.P 33 x1 x5) fun u9 => (k1 (xload E.P m 27 u9) fun u10 => (k2 (vcall E.P base m .len [27] [u10]) fun u11 m => (k1 (mbin E .neq 3 u8 u11) fun u12 => (kb u12 (kr (.bool false) m) (r26_L2 call fuel base (fun w27 m => (kr w27 m)) (fun w28 w29 w30 m => (k1 (mbin E .add 3 w30 (.int .i64 1)) fun u31 => (ih w28 w29 u31 m))) fuel x0 x1 x5 (.int .i64 0) m))))))))) (kx0 m))))) n
noncomputable def r26 (call : CallF) (fuel base : Nat) (x0 : Value) (x1 : Value) (m : M) : Res2 :=
  (k2 (vcall E.P base m .len [33] [x0]) fun u1 m => (k2 (vcall E.P base m .len [33] [x1]) fun u2 m => (k1 (mbin E .neq 3 u1 u2) fun u3 => (kb u3 (fVal (.bool false) fun v => some (.ret v, m)) (r26_L0 call fuel base (fun w32 m => (fVal w32 fun v => some (.ret v, m))) (fun m => (fVal (.bool true) fun v => some (.ret v, m))) fuel x0 x1 (.int .i64 0) m)))))
def keep26 : Keep := { region := fun i => ([[0, 1], [0, 1, 11], [4], [0, 1, 5], [0, 1, 5, 15], [0, 1, 5], [0, 1, 5, 28], [4], [0, 1, 5, 6], [0, 1, 5, 6, 35], [0, 1, 5, 6], [0, 1, 5, 6, 52], [4], [4]] : List (List Nat))[i]?, exit := fun i => ([[], [0, 1, 5], [0, 1, 5], [0, 1, 5, 6]] : List (List Nat))[i]?, ret := some [4] }
noncomputable def r26_L2_R (call : CallF) (fuel base n : Nat) (vs : List Value) (m : M) (K : KT) : Res2 := match vs with
  | [x0, x1, x5, x6] => r26_L2 call fuel base (fun y4 m => K .ret { n := 53, l := [(4, y4)] } m) (fun y0 y1 y5 m => K (.exit 2) { n := 53, l := [(0, y0), (1, y1), (5, y5)] } m) n x0 x1 x5 x6 m
  | _ => none
noncomputable def r26_L0_R (call : CallF) (fuel base n : Nat) (vs : List Value) (m : M) (K : KT) : Res2 := match vs with
  | [x0, x1, x5] => r26_L0 call fuel base (fun y4 m => K .ret { n := 53, l := [(4, y4)] } m) (fun m => K (.exit 0) { n := 53, l := [] } m) n x0 x1 x5 m
  | _ => none
noncomputable def lp26 (call : CallF) (fuel base : Nat) : Lp := lpsel [(2, fun T m K => kslots 53 [0, 1, 5, 6] T fun vs => r26_L2_R call fuel base fuel vs m K), (0, fun T m K => kslots 53 [0, 1, 5] T fun vs => r26_L0_R call fuel base fuel vs m K)]
noncomputable def c26 : Code := Try.f26.body.getD .skip
theorem r26_L2_lk (call : CallF) (fuel base : Nat) : LoopsOk E call (lp26 call fuel base) fuel base 2 (loopB (blockB (seqR (seqR (blockB (seqL (seqR (loopB (blockB (seqR (seqL (seqR (seqR c26))))))))))))) = (And (And True (And True True)) (And (And True (And (And True True) True)) True)) := by kernel_rfl
theorem r26_L2_ok (call : CallF) (fuel base : Nat) : LpOk E call (lp26 call fuel base) fuel base 2 (loopB (blockB (seqR (seqR (blockB (seqL (seqR (loopB (blockB (seqR (seqL (seqR (seqR c26))))))))))))) := by
  refine loop_ok (kp := keep26) (hb := Eq.mpr (r26_L2_lk call fuel base) (And.intro (And.intro trivial (And.intro trivial trivial)) (And.intro (And.intro trivial (And.intro (And.intro trivial trivial) trivial)) trivial))) 53 [0, 1, 5, 6] (fun n vs m K => r26_L2_R call fuel base n vs m K) ?_ ?_ (fun _ _ _ => rfl)
  · intro vs m K
    unfold r26_L2_R
    split <;> rfl
  · intro n vs m K hl
    match vs, hl with
    | [x0, x1, x5, x6], _ => show _ = _; kernel_rfl
theorem r26_L0_lk (call : CallF) (fuel base : Nat) : LoopsOk E call (lp26 call fuel base) fuel base 0 (loopB (blockB (seqR (seqL (seqR (seqR c26)))))) = (And (And True (And True True)) (And (And (And True (And (And True True) True)) (And True (LpOk E call (lp26 call fuel base) fuel base 2 (loopB (blockB (seqR (seqR (blockB (seqL (seqR (loopB (blockB (seqR (seqL (seqR (seqR c26)))))))))))))))) True)) := by kernel_rfl
theorem r26_L0_ok (call : CallF) (fuel base : Nat) : LpOk E call (lp26 call fuel base) fuel base 0 (loopB (blockB (seqR (seqL (seqR (seqR c26)))))) := by
  refine loop_ok (kp := keep26) (hb := Eq.mpr (r26_L0_lk call fuel base) (And.intro (And.intro trivial (And.intro trivial trivial)) (And.intro (And.intro (And.intro trivial (And.intro (And.intro trivial trivial) trivial)) (And.intro trivial (r26_L2_ok call fuel base))) trivial))) 53 [0, 1, 5] (fun n vs m K => r26_L0_R call fuel base n vs m K) ?_ ?_ (fun _ _ _ => rfl)
  · intro vs m K
    unfold r26_L0_R
    split <;> rfl
  · intro n vs m K hl
    match vs, hl with
    | [x0, x1, x5], _ => show _ = _; kernel_rfl
theorem r26_eq (call : CallF) (fuel base : Nat) (x0 : Value) (x1 : Value) (m : M) : kbody E call keep26 (lp26 call fuel base) base Try.f26 [x0, x1] m = r26 call fuel base x0 x1 m := by
  kernel_rfl
noncomputable def rf26 : RF := fun call fuel base args m => match args with
  | [x0, x1] => r26 call fuel base x0 x1 m
  | _ => none
theorem r26_lk (call : CallF) (fuel base : Nat) : LoopsOk E call (lp26 call fuel base) fuel base 0 c26 = (And True (And (And True (And (And True True) True)) (And (And True (LpOk E call (lp26 call fuel base) fuel base 0 (loopB (blockB (seqR (seqL (seqR (seqR c26)))))))) (And True True)))) := by kernel_rfl
theorem r26_fn : E.P.funcs[26]? = some Try.f26 := by kernel_rfl
theorem r26_body : Try.f26.body = some c26 := by kernel_rfl
theorem rf26_ok : RFok E 26 rf26 := by
  show RFok' E 26 rf26
  refine ⟨Try.f26, r26_fn, fun call fuel base args m r _ h => ?_⟩
  unfold rf26 at h
  split at h
  · rw [← r26_eq] at h
    exact kbody_sound (c := c26) r26_body (Eq.mpr (r26_lk call fuel base) (And.intro trivial (And.intro (And.intro trivial (And.intro (And.intro trivial trivial) trivial)) (And.intro (And.intro trivial (r26_L0_ok call fuel base)) (And.intro trivial trivial))))) h
  · simp at h
end Go.AM
namespace Go.AM
open Go Go.Proofs
noncomputable def r27_L0 (call : CallF) (fuel base : Nat) (kp : Value → M → Res2) (kr : Value → Value → M → Res2) (kx0 : Value → M → Res2) (n : Nat) : Value → Value → Value → Value → M → Res2 :=
  Nat.rec (motive := fun _ => Value → Value → Value → Value → M → Res2) (fun _ _ _ _ _ => none)
    (fun _ ih x1 x2 x6 x7 m =>
      (k1 (mbin E .lss 3 x7 x1) fun u8 => (kb u8 (k1 (xload E.P m 23 x2) fun u9 => (kc (call base 44 [u9, x6] m) (fun u10 m => (k1 (mun .not u10) fun u11 => (kb u11 (kr (.slice none 0 0) (.int .i64 4) m) (k1 (mbin E .add 3 x7 (.int .i64 1)) fun u12 => (ih x1 x2 x6 u12 m))))) (fun v m => kp v m))) (kx0 x6 m)))) n
noncomputable def r27 (call : CallF) (fuel base : Nat) (x0 : Value) (x1 : Value) (m : M) : Res2 :=
  (k2 (xbox m x0) fun u1 m => (k1 (xload E.P m 23 u1) fun u2 => (kc (call base 50 [u2] m) (fun u3 m => (k1 (mun .not u3) fun u4 => (kb u4 (some (.ret (.tuple #[(.slice none 0 0), (.int .i64 2)]), m)) (k1 (mbin E .lss 3 x1 (.int .i64 0)) fun u5 => (kb u5 (some (.ret (.tuple #[(.slice none 0 0), (.int .i64 4)]), m)) (k1 (xload E.P m 23 u1) fun u6 => (kc (call base 54 [u6] m) (fun u7 m => (r27_L0 call fuel base (fun v m => some (.pan v, m)) (fun w13 w14 m => (some (.ret (.tuple #[w13, w14]), m))) (fun w15 m => (some (.ret (.tuple #[w15, (.int .i64 0)]), m))) fuel x1 u1 u7 (.int .i64 0) m)) (fun v m => some (.pan v, m))))))))) (fun v m => some (.pan v, m)))))
def keep27 : Keep := { region := fun i => ([[1, 2], [1, 2, 10], [4, 5], [1, 2, 12], [4, 5], [1, 2, 6], [1, 2, 6, 7], [1, 2, 6, 7, 17], [1, 2, 6, 7], [1, 2, 6, 7, 23], [4, 5], [4, 5]] : List (List Nat))[i]?, exit := fun i => ([[6], [1, 2, 6, 7]] : List (List Nat))[i]?, ret := some [4, 5] }
noncomputable def r27_L0_R (call : CallF) (fuel base n : Nat) (vs : List Value) (m : M) (K : KT) : Res2 := match vs with
  | [x1, x2, x6, x7] => r27_L0 call fuel base (fun v m => K (.pan v) { n := 25, l := [] } m) (fun y4 y5 m => K .ret { n := 25, l := [(4, y4), (5, y5)] } m) (fun y6 m => K (.exit 0) { n := 25, l := [(6, y6)] } m) n x1 x2 x6 x7 m
  | _ => none
noncomputable def lp27 (call : CallF) (fuel base : Nat) : Lp := lpsel [(0, fun T m K => kslots 25 [1, 2, 6, 7] T fun vs => r27_L0_R call fuel base fuel vs m K)]
noncomputable def c27 : Code := Try.f27.body.getD .skip
theorem r27_L0_lk (call : CallF) (fuel base : Nat) : LoopsOk E call (lp27 call fuel base) fuel base 0 (loopB (blockB (seqR (seqL (seqR (seqR (seqR (seqR c27)))))))) = (And (And True (And True True)) (And (And True (And (And True True) True)) True)) := by kernel_rfl
theorem r27_L0_ok (call : CallF) (fuel base : Nat) : LpOk E call (lp27 call fuel base) fuel base 0 (loopB (blockB (seqR (seqL (seqR (seqR (seqR (seqR c27)))))))) := by
  refine loop_ok (kp := keep27) (hb := Eq.mpr (r27_L0_lk call fuel base) (And.intro (And.intro trivial (And.intro trivial trivial)) (And.intro (And.intro trivial (And.intro (And.intro trivial trivial) trivial)) trivial))) 25 [1, 2, 6, 7] (fun n vs m K => r27_L0_R call fuel base n vs m K) ?_ ?_ (fun _ _ _ => rfl)
  · intro vs m K
    unfold r27_L0_R
    split <;> rfl
  · intro n vs m K hl
    match vs, hl with
    | [x1, x2, x6, x7], _ => show _ = _; kernel_rfl
theorem r27_eq (call : CallF) (fuel base : Nat) (x0 : Value) (x1 : Value) (m : M) : kbody E call keep27 (lp27 call fuel base) base Try.f27 [x0, x1] m = r27 call fuel base x0 x1 m := by
  kernel_rfl
noncomputable def rf27 : RF := fun call fuel base args m => match args with
  | [x0, x1] => r27 call fuel base x0 x1 m
  | _ => none
theorem r27_lk (call : CallF) (fuel base : Nat) : LoopsOk E call (lp27 call fuel base) fuel base 0 c27 = (And True (And (And True (And (And True True) True)) (And (And True (And (And True True) True)) (And True (And (And True (LpOk E call (lp27 call fuel base) fuel base 0 (loopB (blockB (seqR (seqL (seqR (seqR (seqR (seqR c27)))))))))) (And True True)))))) := by kernel_rfl
theorem r27_fn : E.P.funcs[27]? = some Try.f27 := by kernel_rfl
theorem r27_body : Try.f27.body = some c27 := by kernel_rfl
theorem rf27_ok : RFok E 27 rf27 := by
  show RFok' E 27 rf27
  refine ⟨Try.f27, r27_fn, fun call fuel base args m r _ h => ?_⟩
  unfold rf27 at h
  split at h
  · rw [← r27_eq] at h
    exact kbody_sound (c := c27) r27_body (Eq.mpr (r27_lk call fuel base) (And.intro trivial (And.intro (And.intro trivial (And.intro (And.intro trivial trivial) trivial)) (And.intro (And.intro trivial (And.intro (And.intro trivial trivial) trivial)) (And.intro trivial (And.intro (And.intro trivial (r27_L0_ok call fuel base)) (And.intro trivial trivial))))))) h
  · simp at h
end Go.AM
namespace Go.AM
open Go Go.Proofs
noncomputable def r32 (call : CallF) (fuel base : Nat) (x0 : Value) (x1 : Value) (m : M) : Res2 :=
  (k2 (xbox m x0) fun u1 m => (k1 (xload E.P m 23 u1) fun u2 => (kc (call base 56 [u2, x1] m) (fun u3 m => (k1 (mextract 0 u3) fun u4 => (k1 (mextract 1 u3) fun u5 => (k2 (xalloc E.P m 79) fun u6 m => (ks (xstore E.P base m 79 u6 u4) fun m => (k1 (mbin E .neq 24 u5 (.int .i64 0)) fun u7 => (kb u7 (some (.ret (.tuple #[(.slice none 0 0), (.slice none 0 0), u5]), m)) (k1 (xload E.P m 79 u6) fun u8 => (kc (call base 65 [u8] m) (fun u9 m => (k1 (mextract 0 u9) fun u10 => (k1 (mextract 1 u9) fun u11 => (some (.ret (.tuple #[u10, u11, (.int .i64 0)]), m))))) (fun v m => some (.pan v, m))))))))))) (fun v m => some (.pan v, m)))))
def keep32 : Keep := { region := fun i => ([[1, 2], [7, 8], [7, 8, 18], [4, 5, 6], [9, 10], [4, 5, 6]] : List (List Nat))[i]?, exit := fun i => ([] : List (List Nat))[i]?, ret := some [4, 5, 6] }
noncomputable def lp32 (call : CallF) (fuel base : Nat) : Lp := lpsel []
noncomputable def c32 : Code := Try.f32.body.getD .skip
theorem r32_eq (call : CallF) (fuel base : Nat) (x0 : Value) (x1 : Value) (m : M) : kbody E call keep32 (lp32 call fuel base) base Try.f32 [x0, x1] m = r32 call fuel base x0 x1 m := by
  kernel_rfl
noncomputable def rf32 : RF := fun call fuel base args m => match args with
  | [x0, x1] => r32 call fuel base x0 x1 m
  | _ => none
theorem r32_lk (call : CallF) (fuel base : Nat) : LoopsOk E call (lp32 call fuel base) fuel base 0 c32 = (And True (And True (And (And True (And (And True True) True)) (And True (And True True))))) := by kernel_rfl
theorem r32_fn : E.P.funcs[32]? = some Try.f32 := by kernel_rfl
theorem r32_body : Try.f32.body = some c32 := by kernel_rfl
theorem rf32_ok : RFok E 32 rf32 := by
  show RFok' E 32 rf32
  refine ⟨Try.f32, r32_fn, fun call fuel base args m r _ h => ?_⟩
  unfold rf32 at h
  split at h
  · rw [← r32_eq] at h
    exact kbody_sound (c := c32) r32_body (Eq.mpr (r32_lk call fuel base) (And.intro trivial (And.intro trivial (And.intro (And.intro trivial (And.intro (And.intro trivial trivial) trivial)) (And.intro trivial (And.intro trivial trivial)))))) h
  · simp at h
end Go.AM
namespace Go.AM
open Go Go.Proofs
noncomputable def r33 (call : CallF) (fuel base : Nat) (x0 : Value) (x1 : Value) (m : M) : Res2 :=
  (k2 (xbox m x0) fun u1 m => (k1 (xload E.P m 23 u1) fun u2 => (kc (call base 56 [u2, x1] m) (fun u3 m => (k1 (mextract 0 u3) fun u4 => (k1 (mextract 1 u3) fun u5 => (k2 (xalloc E.P m 79) fun u6 m => (ks (xstore E.P base m 79 u6 u4) fun m => (k1 (mbin E .neq 24 u5 (.int .i64 0)) fun u7 => (kb u7 (some (.ret (.tuple #[(.slice none 0 0), u5]), m)) (k1 (xload E.P m 79 u6) fun u8 => (kc (call base 66 [u8] m) (fun u9 m => (some (.ret (.tuple #[u9, (.int .i64 0)]), m))) (fun v m => some (.pan v, m))))))))))) (fun v m => some (.pan v, m)))))
def keep33 : Keep := { region := fun i => ([[1, 2], [6, 7], [6, 7, 15], [4, 5], [4, 5]] : List (List Nat))[i]?, exit := fun i => ([] : List (List Nat))[i]?, ret := some [4, 5] }
noncomputable def lp33 (call : CallF) (fuel base : Nat) : Lp := lpsel []
noncomputable def c33 : Code := Try.f33.body.getD .skip
theorem r33_eq (call : CallF) (fuel base : Nat) (x0 : Value) (x1 : Value) (m : M) : kbody E call keep33 (lp33 call fuel base) base Try.f33 [x0, x1] m = r33 call fuel base x0 x1 m := by
  kernel_rfl
noncomputable def rf33 : RF := fun call fuel base args m => match args with
  | [x0, x1] => r33 call fuel base x0 x1 m
  | _ => none
theorem r33_lk (call : CallF) (fuel base : Nat) : LoopsOk E call (lp33 call fuel base) fuel base 0 c33 = (And True (And True (And (And True (And (And True True) True)) (And True True)))) := by kernel_rfl
theorem r33_fn : E.P.funcs[33]? = some Try.f33 := by kernel_rfl
theorem r33_body : Try.f33.body = some c33 := by kernel_rfl
theorem rf33_ok : RFok E 33 rf33 := by
  show RFok' E 33 rf33
  refine ⟨Try.f33, r33_fn, fun call fuel base args m r _ h => ?_⟩
  unfold rf33 at h
  split at h
  · rw [← r33_eq] at h
    exact kbody_sound (c := c33) r33_body (Eq.mpr (r33_lk call fuel base) (And.intro trivial (And.intro trivial (And.intro (And.intro trivial (And.intro (And.intro trivial trivial) trivial)) (And.intro trivial trivial))))) h
  · simp at h
end Go.AM
namespace Go.AM
open Go Go.Proofs
noncomputable def r37_L0 (call : CallF) (fuel base : Nat) (kr : Value → M → Res2) (kx0 : M → Res2) (n : Nat) : Value → Value → Value → M → Res2 :=
  Nat.rec (motive := fun _ => Value → Value → Value → M → Res2) (fun _ _ _ _ => none)
    (fun _ ih x0 x1 x5 m =>
      (k2 (vcall E.P base m .len [47] [x0]) fun u4 m => (k1 (mbin E .lss 3 x5 u4) fun u5 => (kb u5 (k1 (mindexAddr E.P 47 x0 x5) fun u6 => (k1 (xload E.P m 69 u6) fun u7 => (k1 (mindexAddr E.P 47 x1 x5) fun u8 => (k1 (xload E.P m 69 u8) fun u9 => (k1 (mbin E .neq 69 u7 u9) fun u10 => (kb u10 (kr (.bool false) m) (k1 (mbin E .add 3 x5 (.int .i64 1)) fun u11 => (ih x0 x1 u11 m)))))))) (kx0 m))))) n
noncomputable def r37 (call : CallF) (fuel base : Nat) (x0 : Value) (x1 : Value) (m : M) : Res2 :=
  (k2 (vcall E.P base m .len [47] [x0]) fun u1 m => (k2 (vcall E.P base m .len [47] [x1]) fun u2 m => (k1 (mbin E .neq 3 u1 u2) fun u3 => (kb u3 (fVal (.bool false) fun v => some (.ret v, m)) (r37_L0 call fuel base (fun w12 m => (fVal w12 fun v => some (.ret v, m))) (fun m => (fVal (.bool true) fun v => some (.ret v, m))) fuel x0 x1 (.int .i64 0) m)))))
def keep37 : Keep := { region := fun i => ([[0, 1], [0, 1, 10], [4], [0, 1, 5], [0, 1, 5, 14], [0, 1, 5], [0, 1, 5, 25], [4], [4]] : List (List Nat))[i]?, exit := fun i => ([[], [0, 1, 5]] : List (List Nat))[i]?, ret := some [4] }
noncomputable def r37_L0_R (call : CallF) (fuel base n : Nat) (vs : List Value) (m : M) (K : KT) : Res2 := match vs with
  | [x0, x1, x5] => r37_L0 call fuel base (fun y4 m => K .ret { n := 26, l := [(4, y4)] } m) (fun m => K (.exit 0) { n := 26, l := [] } m) n x0 x1 x5 m
  | _ => none
noncomputable def lp37 (call : CallF) (fuel base : Nat) : Lp := lpsel [(0, fun T m K => kslots 26 [0, 1, 5] T fun vs => r37_L0_R call fuel base fuel vs m K)]
noncomputable def c37 : Code := Try.f37.body.getD .skip
theorem r37_L0_lk (call : CallF) (fuel base : Nat) : LoopsOk E call (lp37 call fuel base) fuel base 0 (loopB (blockB (seqR (seqL (seqR (seqR c37)))))) = (And (And True (And True True)) (And (And True (And (And True True) True)) True)) := by kernel_rfl
theorem r37_L0_ok (call : CallF) (fuel base : Nat) : LpOk E call (lp37 call fuel base) fuel base 0 (loopB (blockB (seqR (seqL (seqR (seqR c37)))))) := by
  refine loop_ok (kp := keep37) (hb := Eq.mpr (r37_L0_lk call fuel base) (And.intro (And.intro trivial (And.intro trivial trivial)) (And.intro (And.intro trivial (And.intro (And.intro trivial trivial) trivial)) trivial))) 26 [0, 1, 5] (fun n vs m K => r37_L0_R call fuel base n vs m K) ?_ ?_ (fun _ _ _ => rfl)
  · intro vs m K
    unfold r37_L0_R
    split <;> rfl
  · intro n vs m K hl
    match vs, hl with
    | [x0, x1, x5], _ => show _ = _; kernel_rfl
theorem r37_eq (call : CallF) (fuel base : Nat) (x0 : Value) (x1 : Value) (m : M) : kbody E call keep37 (lp37 call fuel base) base Try.f37 [x0, x1] m = r37 call fuel base x0 x1 m := by
  kernel_rfl
noncomputable def rf37 : RF := fun call fuel base args m => match args with
  | [x0, x1] => r37 call fuel base x0 x1 m
  | _ => none
theorem r37_lk (call : CallF) (fuel base : Nat) : LoopsOk E call (lp37 call fuel base) fuel base 0 c37 = (And True (And (And True (And (And True True) True)) (And (And True (LpOk E call (lp37 call fuel base) fuel base 0 (loopB (blockB (seqR (seqL (seqR (seqR c37)))))))) (And True True)))) := by kernel_rfl
theorem r37_fn : E.P.funcs[37]? = some Try.f37 := by kernel_rfl
theorem r37_body : Try.f37.body = some c37 := by kernel_rfl
theorem rf37_ok : RFok E 37 rf37 := by
  show RFok' E 37 rf37
  refine ⟨Try.f37, r37_fn, fun call fuel base args m r _ h => ?_⟩
  unfold rf37 at h
  split at h
  · rw [← r37_eq] at h
    exact kbody_sound (c := c37) r37_body (Eq.mpr (r37_lk call fuel base) (And.intro trivial (And.intro (And.intro trivial (And.intro (And.intro trivial trivial) trivial)) (And.intro (And.intro trivial (r37_L0_ok call fuel base)) (And.intro trivial trivial))))) h
  · simp at h
end Go.AM
namespace Go.AM
open Go Go.Proofs
noncomputable def r42 (call : CallF) (fuel base : Nat) (x0 : Value) (x1 : Value) (x2 : Value) (x3 : Value) (m : M) : Res2 :=
  (k2 (xalloc E.P m 23) fun u1 m => (k1 (mbin E .rem 5 x0 (.int .u8 4)) fun u2 => (k1 (mconvert E.P 5 3 u2) fun u3 => (k1 (mbin E .add 3 (.int .i64 1) u3) fun u4 => (k1 (mbin E .rem 5 x1 (.int .u8 4)) fun u5 => (k1 (mconvert E.P 5 3 u5) fun u6 => (k1 (mbin E .add 3 (.int .i64 1) u6) fun u7 => (k1 (mbin E .rem 5 x2 (.int .u8 4)) fun u8 => (k1 (mconvert E.P 5 3 u8) fun u9 => (k1 (mbin E .add 3 (.int .i64 1) u9) fun u10 => (k1 (mbuild E.P 23 [(0, u4), (1, u7), (2, u10)]) fun u11 => (k2 (xalloc E.P m 23) fun u12 m => (ks (xstore E.P base m 23 u12 u11) fun m => (k1 (xload E.P m 23 u12) fun u13 => (kc (call base 15 [u13] m) (fun u14 m => (k1 (mextract 0 u14) fun u15 => (k1 (mextract 1 u14) fun u16 => (k1 (xload E.P m 23 u12) fun u17 => (k1 (mconvert E.P 58 3 x3) fun u18 => (k1 (mbin E .rem 3 u18 u15) fun u19 => (kc (kB m (call m.length 27 [u17, u19] m)) (fun u20 m => (k1 (mextract 0 u20) fun u21 => (k1 (mextract 1 u20) fun u22 => (k1 (xload E.P m 23 u12) fun u23 => (ks (xstore E.P base m 23 u1 u23) fun m => (k0 (mload E.P m 23 u1) fun r_24 => (some (.ret (.tuple #[r_24, u21]), m)))))))) (fun _ _ => none)))))))) (fun v m => some (.pan v, m)))))))))))))))))
def keep42 : Keep := { region := fun i => ([[0, 1, 2, 3, 8], [3, 8, 10], [3, 8, 10, 11], [8, 10, 13], [8, 9]] : List (List Nat))[i]?, exit := fun i => ([] : List (List Nat))[i]?, ret := some [8, 9] }
noncomputable def lp42 (call : CallF) (fuel base : Nat) : Lp := lpsel []
noncomputable def c42 : Code := Try.f42.body.getD .skip
theorem r42_eq (call : CallF) (fuel base : Nat) (x0 : Value) (x1 : Value) (x2 : Value) (x3 : Value) (m : M) : kbody E call keep42 (lp42 call fuel base) base Try.f42 [x0, x1, x2, x3] m = r42 call fuel base x0 x1 x2 x3 m := by
  kernel_rfl
noncomputable def rf42 : RF := fun call fuel base args m => match args with
  | [x0, x1, x2, x3] => r42 call fuel base x0 x1 x2 x3 m
  | _ => none
theorem r42_lk (call : CallF) (fuel base : Nat) : LoopsOk E call (lp42 call fuel base) fuel base 0 c42 = (And True (And True (And True (And True (And True True))))) := by kernel_rfl
theorem r42_fn : E.P.funcs[42]? = some Try.f42 := by kernel_rfl
theorem r42_body : Try.f42.body = some c42 := by kernel_rfl
theorem rf42_ok : RFok E 42 rf42 := by
  show RFok' E 42 rf42
  refine ⟨Try.f42, r42_fn, fun call fuel base args m r _ h => ?_⟩
  unfold rf42 at h
  split at h
  · rw [← r42_eq] at h
    exact kbody_sound (c := c42) r42_body (Eq.mpr (r42_lk call fuel base) (And.intro trivial (And.intro trivial (And.intro trivial (And.intro trivial (And.intro trivial trivial)))))) h
  · simp at h
end Go.AM
namespace Go.AM
open Go Go.Proofs
noncomputable def r44_L2 (call : CallF) (fuel base : Nat) (kx2 : M → Res2) (n : Nat) : Value → Value → Value → M → Res2 :=
  Nat.rec (motive := fun _ => Value → Value → Value → M → Res2) (fun _ _ _ _ => none)
    (fun _ ih x1 x2 x8 m =>
      (k1 (mfieldAddr E.P 23 x2 0) fun u29 => (k1 (xload E.P m 3 u29) fun u30 => (k1 (mfieldAddr E.P 23 x2 1) fun u31 => (k1 (xload E.P m 3 u31) fun u32 => (k1 (mbin E .mul 3 u30 u32) fun u33 => (k1 (mbin E .lss 3 x8 u33) fun u34 => (kb u34 (k1 (mfieldAddr E.P 23 x2 1) fun u35 => (k1 (xload E.P m 3 u35) fun u36 => (k1 (mbin E .quo 3 x8 u36) fun u37 => (k1 (mindexAddr E.P 33 x1 u37) fun u38 => (k1 (xload E.P m 27 u38) fun u39 => (k1 (mfieldAddr E.P 23 x2 1) fun u40 => (k1 (xload E.P m 3 u40) fun u41 => (k1 (mbin E .rem 3 x8 u41) fun u42 => (k1 (mindexAddr E.P 27 u39 u42) fun u43 => (ks (xstore E.P base m 3 u43 (.int .i64 0)) fun m => (k1 (mbin E .add 3 x8 (.int .i64 1)) fun u44 => (ih x1 x2 u44 m)))))))))))) (kx2 m))))))))) n
noncomputable def r44_L0 (call : CallF) (fuel base : Nat) (kr : Value → M → Res2) (kx0 : M → Res2) (n : Nat) : Value → Value → Value → M → Res2 :=
  Nat.rec (motive := fun _ => Value → Value → Value → M → Res2) (fun _ _ _ _ => none)
    (fun _ ih x1 x2 x5 m =>
      (k1 (mbin E .geq 3 x5 (.int .i64 0)) fun u8 => (kb u8 (k1 (mfieldAddr E.P 23 x2 1) fun u9 => (k1 (xload E.P m 3 u9) fun u10 => (k1 (mbin E .quo 3 x5 u10) fun u11 => (k1 (mfieldAddr E.P 23 x2 1) fun u12 => (k1 (xload E.P m 3 u12) fun u13 => (k1 (mbin E .rem 3 x5 u13) fun u14 => (k1 (mindexAddr E.P 33 x1 u11) fun u15 => (k1 (xload E.P m 27 u15) fun u16 => (k1 (mindexAddr E.P 27 u16 u14) fun u17 => (k1 (xload E.P m 3 u17) fun u18 => (k1 (xload E.P m 23 x2) fun u19 => (kc (kB m (call m.length 74 [u19, x1, u11, u14] m)) (fun u20 m => (k1 (mbin E .lss 3 u18 u20) fun u21 => (kb u21 (k1 (mindexAddr E.P 33 x1 u11) fun u22 => (k1 (xload E.P m 27 u22) fun u23 => (k1 (mindexAddr E.P 27 u23 u14) fun u24 => (k1 (xload E.P m 3 u24) fun u25 => (k1 (mbin E .add 3 u25 (.int .i64 1)) fun u26 => (k1 (mindexAddr E.P 27 u23 u14) fun u27 => (ks (xstore E.P base m 3 u27 u26) fun m => (k1 (mbin E .add 3 x5 (.int .i64 1)) fun u28 => (r44_L2 call fuel base (fun m => (kr (.bool true) m)) fuel x1 x2 u28 m))))))))) (k1 (mbin E .sub 3 x5 (.int .i64 1)) fun u45 => (ih x1 x2 u45 m))))) (fun _ _ => none))))))))))))) (kx0 m)))) n
noncomputable def r44 (call : CallF) (fuel base : Nat) (x0 : Value) (x1 : Value) (m : M) : Res2 :=
  (k2 (xbox m x0) fun u1 m => (k1 (mfieldAddr E.P 23 u1 0) fun u2 => (k1 (xload E.P m 3 u2) fun u3 => (k1 (mfieldAddr E.P 23 u1 1) fun u4 => (k1 (xload E.P m 3 u4) fun u5 => (k1 (mbin E .mul 3 u3 u5) fun u6 => (k1 (mbin E .sub 3 u6 (.int .i64 1)) fun u7 => (r44_L0 call fuel base (fun w46 m => (fVal w46 fun v => some (.ret v, m))) (fun m => (fVal (.bool false) fun v => some (.ret v, m))) fuel x1 u1 u7 m))))))))
def keep44 : Keep := { region := fun i => ([[1, 2], [1, 2, 5], [1, 2, 5, 16], [1, 2, 5], [1, 2, 5, 6, 7], [1, 2, 5, 6, 7, 39], [1, 2, 5], [1, 2, 8], [1, 2, 8, 57], [1, 2, 8], [1, 2, 8], [4], [4]] : List (List Nat))[i]?, exit := fun i => ([[], [1, 2, 5], [], [1, 2, 8]] : List (List Nat))[i]?, ret := some [4] }
noncomputable def r44_L2_R (call : CallF) (fuel base n : Nat) (vs : List Value) (m : M) (K : KT) : Res2 := match vs with
  | [x1, x2, x8] => r44_L2 call fuel base (fun m => K (.exit 2) { n := 72, l := [] } m) n x1 x2 x8 m
  | _ => none
noncomputable def r44_L0_R (call : CallF) (fuel base n : Nat) (vs : List Value) (m : M) (K : KT) : Res2 := match vs with
  | [x1, x2, x5] => r44_L0 call fuel base (fun y4 m => K .ret { n := 72, l := [(4, y4)] } m) (fun m => K (.exit 0) { n := 72, l := [] } m) n x1 x2 x5 m
  | _ => none
noncomputable def lp44 (call : CallF) (fuel base : Nat) : Lp := lpsel [(2, fun T m K => kslots 72 [1, 2, 8] T fun vs => r44_L2_R call fuel base fuel vs m K), (0, fun T m K => kslots 72 [1, 2, 5] T fun vs => r44_L0_R call fuel base fuel vs m K)]
noncomputable def c44 : Code := Try.f44.body.getD .skip
theorem r44_L2_lk (call : CallF) (fuel base : Nat) : LoopsOk E call (lp44 call fuel base) fuel base 2 (loopB (blockB (seqR (seqL (seqR (condT (seqR (seqR (blockB (seqL (seqR (loopB (blockB (seqR (seqL (seqR c44)))))))))))))))) = (And (And True (And True True)) (And True True)) := by kernel_rfl
theorem r44_L2_ok (call : CallF) (fuel base : Nat) : LpOk E call (lp44 call fuel base) fuel base 2 (loopB (blockB (seqR (seqL (seqR (condT (seqR (seqR (blockB (seqL (seqR (loopB (blockB (seqR (seqL (seqR c44)))))))))))))))) := by
  refine loop_ok (kp := keep44) (hb := Eq.mpr (r44_L2_lk call fuel base) (And.intro (And.intro trivial (And.intro trivial trivial)) (And.intro trivial trivial))) 72 [1, 2, 8] (fun n vs m K => r44_L2_R call fuel base n vs m K) ?_ ?_ (fun _ _ _ => rfl)
  · intro vs m K
    unfold r44_L2_R
    split <;> rfl
  · intro n vs m K hl
    match vs, hl with
    | [x1, x2, x8], _ => show _ = _; kernel_rfl
theorem r44_L0_lk (call : CallF) (fuel base : Nat) : LoopsOk E call (lp44 call fuel base) fuel base 0 (loopB (blockB (seqR (seqL (seqR c44))))) = (And (And True (And True True)) (And (And True (And True (And (And True (And (And True (LpOk E call (lp44 call fuel base) fuel base 2 (loopB (blockB (seqR (seqL (seqR (condT (seqR (seqR (blockB (seqL (seqR (loopB (blockB (seqR (seqL (seqR c44)))))))))))))))))) (And True True))) True))) True)) := by kernel_rfl
theorem r44_L0_ok (call : CallF) (fuel base : Nat) : LpOk E call (lp44 call fuel base) fuel base 0 (loopB (blockB (seqR (seqL (seqR c44))))) := by
  refine loop_ok (kp := keep44) (hb := Eq.mpr (r44_L0_lk call fuel base) (And.intro (And.intro trivial (And.intro trivial trivial)) (And.intro (And.intro trivial (And.intro trivial (And.intro (And.intro trivial (And.intro (And.intro trivial (r44_L2_ok call fuel base)) (And.intro trivial trivial))) trivial))) trivial))) 72 [1, 2, 5] (fun n vs m K => r44_L0_R call fuel base n vs m K) ?_ ?_ (fun _ _ _ => rfl)
  · intro vs m K
    unfold r44_L0_R
    split <;> rfl
  · intro n vs m K hl
    match vs, hl with
    | [x1, x2, x5], _ => show _ = _; kernel_rfl
theorem r44_eq (call : CallF) (fuel base : Nat) (x0 : Value) (x1 : Value) (m : M) : kbody E call keep44 (lp44 call fuel base) base Try.f44 [x0, x1] m = r44 call fuel base x0 x1 m := by
  kernel_rfl
noncomputable def rf44 : RF := fun call fuel base args m => match args with
  | [x0, x1] => r44 call fuel base x0 x1 m
  | _ => none
theorem r44_lk (call : CallF) (fuel base : Nat) : LoopsOk E call (lp44 call fuel base) fuel base 0 c44 = (And True (And (And True (LpOk E call (lp44 call fuel base) fuel base 0 (loopB (blockB (seqR (seqL (seqR c44))))))) (And True True))) := by kernel_rfl
theorem r44_fn : E.P.funcs[44]? = some Try.f44 := by kernel_rfl
theorem r44_body : Try.f44.body = some c44 := by kernel_rfl
theorem rf44_ok : RFok E 44 rf44 := by
  show RFok' E 44 rf44
  refine ⟨Try.f44, r44_fn, fun call fuel base args m r _ h => ?_⟩
  unfold rf44 at h
  split at h
  · rw [← r44_eq] at h
    exact kbody_sound (c := c44) r44_body (Eq.mpr (r44_lk call fuel base) (And.intro trivial (And.intro (And.intro trivial (r44_L0_ok call fuel base)) (And.intro trivial trivial)))) h
  · simp at h
end Go.AM
namespace Go.AM
open Go Go.Proofs
noncomputable def r46_L2 (call : CallF) (fuel base : Nat) (kx2 : Value → Value → Value → Value → Value → M → Res2) (n : Nat) : Value → Value → Value → Value → Value → Value → M → Res2 :=
  Nat.rec (motive := fun _ => Value → Value → Value → Value → Value → Value → M → Res2) (fun _ _ _ _ _ _ _ => none)
    (fun _ ih x0 x1 x5 x6 x7 x8 m =>
      (k2 (vcall E.P base m .len [47] [x1]) fun u3 m => (k1 (mbin E .lss 3 x8 u3) fun u4 => (kb u4 (kb x7 (k1 (mbin E .add 3 x8 (.int .i64 1)) fun u5 => (ih x0 x1 x5 x6 (.bool true) u5 m)) (k1 (mindexAddr E.P 47 x0 x6) fun u6 => (k1 (xload E.P m 69 u6) fun u7 => (k1 (mindexAddr E.P 47 x1 x8) fun u8 => (k1 (xload E.P m 69 u8) fun u9 => (k1 (mbin E .eql 69 u7 u9) fun u10 => (k1 (mbin E .add 3 x8 (.int .i64 1)) fun u11 => (ih x0 x1 x5 x6 u10 u11 m)))))))) (kx2 x0 x1 x5 x6 x7 m))))) n
noncomputable def r46_L0 (call : CallF) (fuel base : Nat) (kx0 : Value → M → Res2) (n : Nat) : Value → Value → Value → Value → M → Res2 :=
  Nat.rec (motive := fun _ => Value → Value → Value → Value → M → Res2) (fun _ _ _ _ _ => none)
    (fun _ ih x0 x1 x5 x6 m =>
      (k2 (vcall E.P base m .len [47] [x0]) fun u1 m => (k1 (mbin E .lss 3 x6 u1) fun u2 => (kb u2 (r46_L2 call fuel base (fun w12 w13 w14 w15 w16 m => (k1 (mun .not w16) fun u17 => (kb u17 (k1 (mbin E .add 3 w14 (.int .i64 1)) fun u18 => (k1 (mbin E .add 3 w15 (.int .i64 1)) fun u19 => (ih w12 w13 u18 u19 m))) (k1 (mbin E .add 3 w15 (.int .i64 1)) fun u20 => (ih w12 w13 w14 u20 m))))) fuel x0 x1 x5 x6 (.bool false) (.int .i64 0) m) (kx0 x5 m))))) n
noncomputable def r46 (call : CallF) (fuel base : Nat) (x0 : Value) (x1 : Value) (m : M) : Res2 :=
  (r46_L0 call fuel base (fun w21 m => (fVal w21 fun v => some (.ret v, m))) fuel x0 x1 (.int .i64 0) (.int .i64 0) m)
def keep46 : Keep := { region := fun i => ([[0, 1], [0, 1, 5], [0, 1, 5, 6], [0, 1, 5, 6, 12], [0, 1, 5, 6], [0, 1, 5, 6, 7], [0, 1, 5, 6, 7, 8], [0, 1, 5, 6, 7, 8, 18], [0, 1, 5, 6, 7, 8], [0, 1, 5, 6, 7, 8], [0, 1, 5, 6, 34], [0, 1, 5, 6], [4]] : List (List Nat))[i]?, exit := fun i => ([[5], [0, 1, 5, 6], [0, 1, 5, 6, 7], [0, 1, 5, 6, 7, 8]] : List (List Nat))[i]?, ret := some [4] }
noncomputable def r46_L2_R (call : CallF) (fuel base n : Nat) (vs : List Value) (m : M) (K : KT) : Res2 := match vs with
  | [x0, x1, x5, x6, x7, x8] => r46_L2 call fuel base (fun y0 y1 y5 y6 y7 m => K (.exit 2) { n := 38, l := [(0, y0), (1, y1), (5, y5), (6, y6), (7, y7)] } m) n x0 x1 x5 x6 x7 x8 m
  | _ => none
noncomputable def r46_L0_R (call : CallF) (fuel base n : Nat) (vs : List Value) (m : M) (K : KT) : Res2 := match vs with
  | [x0, x1, x5, x6] => r46_L0 call fuel base (fun y5 m => K (.exit 0) { n := 38, l := [(5, y5)] } m) n x0 x1 x5 x6 m
  | _ => none
noncomputable def lp46 (call : CallF) (fuel base : Nat) : Lp := lpsel [(2, fun T m K => kslots 38 [0, 1, 5, 6, 7, 8] T fun vs => r46_L2_R call fuel base fuel vs m K), (0, fun T m K => kslots 38 [0, 1, 5, 6] T fun vs => r46_L0_R call fuel base fuel vs m K)]
noncomputable def c46 : Code := Try.f46.body.getD .skip
theorem r46_L2_lk (call : CallF) (fuel base : Nat) : LoopsOk E call (lp46 call fuel base) fuel base 2 (loopB (blockB (seqR (seqL (seqR (blockB (seqL (seqR (loopB (blockB (seqR (seqL (seqR (seqR c46)))))))))))))) = (And (And True (And True True)) (And True True)) := by kernel_rfl
theorem r46_L2_ok (call : CallF) (fuel base : Nat) : LpOk E call (lp46 call fuel base) fuel base 2 (loopB (blockB (seqR (seqL (seqR (blockB (seqL (seqR (loopB (blockB (seqR (seqL (seqR (seqR c46)))))))))))))) := by
  refine loop_ok (kp := keep46) (hb := Eq.mpr (r46_L2_lk call fuel base) (And.intro (And.intro trivial (And.intro trivial trivial)) (And.intro trivial trivial))) 38 [0, 1, 5, 6, 7, 8] (fun n vs m K => r46_L2_R call fuel base n vs m K) ?_ ?_ (fun _ _ _ => rfl)
  · intro vs m K
    unfold r46_L2_R
    split <;> rfl
  · intro n vs m K hl
    match vs, hl with
    | [x0, x1, x5, x6, x7, x8], _ => show _ = _; kernel_rfl
theorem r46_L0_lk (call : CallF) (fuel base : Nat) : LoopsOk E call (lp46 call fuel base) fuel base 0 (loopB (blockB (seqR (seqL (seqR (seqR c46)))))) = (And (And True (And True True)) (And (And True (And (And True (LpOk E call (lp46 call fuel base) fuel base 2 (loopB (blockB (seqR (seqL (seqR (blockB (seqL (seqR (loopB (blockB (seqR (seqL (seqR (seqR c46)))))))))))))))) (And True (And True True)))) True)) := by kernel_rfl
theorem r46_L0_ok (call : CallF) (fuel base : Nat) : LpOk E call (lp46 call fuel base) fuel base 0 (loopB (blockB (seqR (seqL (seqR (seqR c46)))))) := by
  refine loop_ok (kp := keep46) (hb := Eq.mpr (r46_L0_lk call fuel base) (And.intro (And.intro trivial (And.intro trivial trivial)) (And.intro (And.intro trivial (And.intro (And.intro trivial (r46_L2_ok call fuel base)) (And.intro trivial (And.intro trivial trivial)))) trivial))) 38 [0, 1, 5, 6] (fun n vs m K => r46_L0_R call fuel base n vs m K) ?_ ?_ (fun _ _ _ => rfl)
  · intro vs m K
    unfold r46_L0_R
    split <;> rfl
  · intro n vs m K hl
    match vs, hl with
    | [x0, x1, x5, x6], _ => show _ = _; kernel_rfl
theorem r46_eq (call : CallF) (fuel base : Nat) (x0 : Value) (x1 : Value) (m : M) : kbody E call keep46 (lp46 call fuel base) base Try.f46 [x0, x1] m = r46 call fuel base x0 x1 m := by
  kernel_rfl
noncomputable def rf46 : RF := fun call fuel base args m => match args with
  | [x0, x1] => r46 call fuel base x0 x1 m
  | _ => none
theorem r46_lk (call : CallF) (fuel base : Nat) : LoopsOk E call (lp46 call fuel base) fuel base 0 c46 = (And True (And True (And (And True (LpOk E call (lp46 call fuel base) fuel base 0 (loopB (blockB (seqR (seqL (seqR (seqR c46)))))))) (And True True)))) := by kernel_rfl
theorem r46_fn : E.P.funcs[46]? = some Try.f46 := by kernel_rfl
theorem r46_body : Try.f46.body = some c46 := by kernel_rfl
theorem rf46_ok : RFok E 46 rf46 := by
  show RFok' E 46 rf46
  refine ⟨Try.f46, r46_fn, fun call fuel base args m r _ h => ?_⟩
  unfold rf46 at h
  split at h
  · rw [← r46_eq] at h
    exact kbody_sound (c := c46) r46_body (Eq.mpr (r46_lk call fuel base) (And.intro trivial (And.intro trivial (And.intro (And.intro trivial (r46_L0_ok call fuel base)) (And.intro trivial trivial))))) h
  · simp at h
end Go.AM
namespace Go.AM
open Go Go.Proofs
noncomputable def r47 (call : CallF) (fuel base : Nat) (x0 : Value) (m : M) : Res2 :=
  (k2 (xbox m x0) fun u1 m => (k1 (mfieldAddr E.P 23 u1 0) fun u2 => (k1 (xload E.P m 3 u2) fun u3 => (kc (call base 75 [u3] m) (fun u4 m => (kb u4 (k1 (mfieldAddr E.P 23 u1 1) fun u5 => (k1 (xload E.P m 3 u5) fun u6 => (kc (call base 75 [u6] m) (fun u7 m => (kb u7 (k1 (mfieldAddr E.P 23 u1 2) fun u8 => (k1 (xload E.P m 3 u8) fun u9 => (kc (call base 75 [u9] m) (fun u10 m => (fVal u10 fun v => some (.ret v, m))) (fun v m => some (.pan v, m))))) (fVal (.bool false) fun v => some (.ret v, m)))) (fun v m => some (.pan v, m))))) (fVal (.bool false) fun v => some (.ret v, m)))) (fun v m => some (.pan v, m))))))
def keep47 : Keep := { region := fun i => ([[1], [2]] : List (List Nat))[i]?, exit := fun i => ([] : List (List Nat))[i]?, ret := some [2] }
noncomputable def lp47 (call : CallF) (fuel base : Nat) : Lp := lpsel []
noncomputable def c47 : Code := Try.f47.body.getD .skip
theorem r47_eq (call : CallF) (fuel base : Nat) (x0 : Value) (m : M) : kbody E call keep47 (lp47 call fuel base) base Try.f47 [x0] m = r47 call fuel base x0 m := by
  kernel_rfl
noncomputable def rf47 : RF := fun call fuel base args m => match args with
  | [x0] => r47 call fuel base x0 m
  | _ => none
theorem r47_lk (call : CallF) (fuel base : Nat) : LoopsOk E call (lp47 call fuel base) fuel base 0 c47 = (And True (And True True)) := by kernel_rfl
theorem r47_fn : E.P.funcs[47]? = some Try.f47 := by kernel_rfl
theorem r47_body : Try.f47.body = some c47 := by kernel_rfl
theorem rf47_ok : RFok E 47 rf47 := by
  show RFok' E 47 rf47
  refine ⟨Try.f47, r47_fn, fun call fuel base args m r _ h => ?_⟩
  unfold rf47 at h
  split at h
  · rw [← r47_eq] at h
    exact kbody_sound (c := c47) r47_body (Eq.mpr (r47_lk call fuel base) (And.intro trivial (And.intro trivial trivial))) h
  · simp at h
end Go.AM
namespace Go.AM
open Go Go.Proofs
noncomputable def r48_L2 (call : CallF) (fuel base : Nat) (kx2 : Value → Value → Value → Value → M → Res2) (n : Nat) : Value → Value → Value → Value → Value → M → Res2 :=
  Nat.rec (motive := fun _ => Value → Value → Value → Value → Value → M → Res2) (fun _ _ _ _ _ _ => none)
    (fun _ ih x1 x3 x4 x5 x6 m =>
      (k1 (mfieldAddr E.P 23 x1 1) fun u5 => (k1 (xload E.P m 3 u5) fun u6 => (k1 (mbin E .leq 3 x6 u6) fun u7 => (kb u7 (k1 (mbin E .add 3 x5 x6) fun u8 => (k1 (mfieldAddr E.P 23 x1 2) fun u9 => (k1 (xload E.P m 3 u9) fun u10 => (k1 (mbin E .add 3 u8 u10) fun u11 => (k1 (mbin E .sub 3 u11 (.int .i64 1)) fun u12 => (k1 (mbin E .mul 3 x3 u12) fun u13 => (k1 (mbin E .add 3 x5 x6) fun u14 => (k1 (mbin E .sub 3 u14 (.int .i64 1)) fun u15 => (k1 (mbin E .mul 3 x4 u15) fun u16 => (k1 (mbin E .add 3 x6 (.int .i64 1)) fun u17 => (ih x1 u13 u16 x5 u17 m))))))))))) (kx2 x1 x3 x4 x5 m)))))) n
noncomputable def r48_L0 (call : CallF) (fuel base : Nat) (kx0 : Value → Value → M → Res2) (n : Nat) : Value → Value → Value → Value → M → Res2 :=
  Nat.rec (motive := fun _ => Value → Value → Value → Value → M → Res2) (fun _ _ _ _ _ => none)
    (fun _ ih x1 x3 x4 x5 m =>
      (k1 (mfieldAddr E.P 23 x1 0) fun u2 => (k1 (xload E.P m 3 u2) fun u3 => (k1 (mbin E .leq 3 x5 u3) fun u4 => (kb u4 (r48_L2 call fuel base (fun w18 w19 w20 w21 m => (k1 (mbin E .add 3 w21 (.int .i64 1)) fun u22 => (ih w18 w19 w20 u22 m))) fuel x1 x3 x4 x5 (.int .i64 1) m) (kx0 x3 x4 m)))))) n
noncomputable def r48 (call : CallF) (fuel base : Nat) (x0 : Value) (m : M) : Res2 :=
  (k2 (xbox m x0) fun u1 m => (r48_L0 call fuel base (fun w23 w24 m => (k1 (mbin E .quo 3 w23 w24) fun u25 => (fVal u25 fun v => some (.ret v, m)))) fuel u1 (.int .i64 1) (.int .i64 1) (.int .i64 1) m))
def keep48 : Keep := { region := fun i => ([[1], [1, 3, 4], [1, 3, 4, 5], [1, 3, 4, 5, 10], [1, 3, 4, 5], [1, 3, 4, 5, 6], [1, 3, 4, 5, 6, 16], [1, 3, 4, 5, 6], [1, 3, 4, 5, 6], [1, 3, 4, 5, 6], [2]] : List (List Nat))[i]?, exit := fun i => ([[3, 4], [1, 3, 4, 5], [1, 3, 4, 5], [1, 3, 4, 5, 6]] : List (List Nat))[i]?, ret := some [2] }
noncomputable def r48_L2_R (call : CallF) (fuel base n : Nat) (vs : List Value) (m : M) (K : KT) : Res2 := match vs with
  | [x1, x3, x4, x5, x6] => r48_L2 call fuel base (fun y1 y3 y4 y5 m => K (.exit 2) { n := 37, l := [(1, y1), (3, y3), (4, y4), (5, y5)] } m) n x1 x3 x4 x5 x6 m
  | _ => none
noncomputable def r48_L0_R (call : CallF) (fuel base n : Nat) (vs : List Value) (m : M) (K : KT) : Res2 := match vs with
  | [x1, x3, x4, x5] => r48_L0 call fuel base (fun y3 y4 m => K (.exit 0) { n := 37, l := [(3, y3), (4, y4)] } m) n x1 x3 x4 x5 m
  | _ => none
noncomputable def lp48 (call : CallF) (fuel base : Nat) : Lp := lpsel [(2, fun T m K => kslots 37 [1, 3, 4, 5, 6] T fun vs => r48_L2_R call fuel base fuel vs m K), (0, fun T m K => kslots 37 [1, 3, 4, 5] T fun vs => r48_L0_R call fuel base fuel vs m K)]
noncomputable def c48 : Code := Try.f48.body.getD .skip
theorem r48_L2_lk (call : CallF) (fuel base : Nat) : LoopsOk E call (lp48 call fuel base) fuel base 2 (loopB (blockB (seqR (blockB (seqL (seqR (loopB (blockB (seqR (seqL (seqR (seqR c48)))))))))))) = (And (And True (And True True)) (And (And True True) True)) := by kernel_rfl
theorem r48_L2_ok (call : CallF) (fuel base : Nat) : LpOk E call (lp48 call fuel base) fuel base 2 (loopB (blockB (seqR (blockB (seqL (seqR (loopB (blockB (seqR (seqL (seqR (seqR c48)))))))))))) := by
  refine loop_ok (kp := keep48) (hb := Eq.mpr (r48_L2_lk call fuel base) (And.intro (And.intro trivial (And.intro trivial trivial)) (And.intro (And.intro trivial trivial) trivial))) 37 [1, 3, 4, 5, 6] (fun n vs m K => r48_L2_R call fuel base n vs m K) ?_ ?_ (fun _ _ _ => rfl)
  · intro vs m K
    unfold r48_L2_R
    split <;> rfl
  · intro n vs m K hl
    match vs, hl with
    | [x1, x3, x4, x5, x6], _ => show _ = _; kernel_rfl
theorem r48_L0_lk (call : CallF) (fuel base : Nat) : LoopsOk E call (lp48 call fuel base) fuel base 0 (loopB (blockB (seqR (seqL (seqR (seqR c48)))))) = (And (And True (And True True)) (And (And True (LpOk E call (lp48 call fuel base) fuel base 2 (loopB (blockB (seqR (blockB (seqL (seqR (loopB (blockB (seqR (seqL (seqR (seqR c48)))))))))))))) True)) := by kernel_rfl
theorem r48_L0_ok (call : CallF) (fuel base : Nat) : LpOk E call (lp48 call fuel base) fuel base 0 (loopB (blockB (seqR (seqL (seqR (seqR c48)))))) := by
  refine loop_ok (kp := keep48) (hb := Eq.mpr (r48_L0_lk call fuel base) (And.intro (And.intro trivial (And.intro trivial trivial)) (And.intro (And.intro trivial (r48_L2_ok call fuel base)) trivial))) 37 [1, 3, 4, 5] (fun n vs m K => r48_L0_R call fuel base n vs m K) ?_ ?_ (fun _ _ _ => rfl)
  · intro vs m K
    unfold r48_L0_R
    split <;> rfl
  · intro n vs m K hl
    match vs, hl with
    | [x1, x3, x4, x5], _ => show _ = _; kernel_rfl
theorem r48_eq (call : CallF) (fuel base : Nat) (x0 : Value) (m : M) : kbody E call keep48 (lp48 call fuel base) base Try.f48 [x0] m = r48 call fuel base x0 m := by
  kernel_rfl
noncomputable def rf48 : RF := fun call fuel base args m => match args with
  | [x0] => r48 call fuel base x0 m
  | _ => none
theorem r48_lk (call : CallF) (fuel base : Nat) : LoopsOk E call (lp48 call fuel base) fuel base 0 c48 = (And True (And True (And (And True (LpOk E call (lp48 call fuel base) fuel base 0 (loopB (blockB (seqR (seqL (seqR (seqR c48)))))))) (And True True)))) := by kernel_rfl
theorem r48_fn : E.P.funcs[48]? = some Try.f48 := by kernel_rfl
theorem r48_body : Try.f48.body = some c48 := by kernel_rfl
theorem rf48_ok : RFok E 48 rf48 := by
  show RFok' E 48 rf48
  refine ⟨Try.f48, r48_fn, fun call fuel base args m r _ h => ?_⟩
  unfold rf48 at h
  split at h
  · rw [← r48_eq] at h
    exact kbody_sound (c := c48) r48_body (Eq.mpr (r48_lk call fuel base) (And.intro trivial (And.intro trivial (And.intro (And.intro trivial (r48_L0_ok call fuel base)) (And.intro trivial trivial))))) h
  · simp at h
end Go.AM
namespace Go.AM
open Go Go.Proofs
noncomputable def r49_L2 (call : CallF) (fuel base : Nat) (kx2 : Value → Value → Value → Value → M → Res2) (n : Nat) : Value → Value → Value → Value → Value → Value → Value → M → Res2 :=
  Nat.rec (motive := fun _ => Value → Value → Value → Value → Value → Value → Value → M → Res2) (fun _ _ _ _ _ _ _ _ => none)
    (fun _ ih x1 x3 x4 x10 x11 x24 x25 m =>
      (k1 (mbin E .lss 3 x25 x24) fun u14 => (kb u14 (k1 (mindexAddr E.P 33 x3 x4) fun u15 => (k1 (xload E.P m 27 u15) fun u16 => (k1 (mfieldAddr E.P 23 x1 1) fun u17 => (k1 (xload E.P m 3 u17) fun u18 => (k1 (mfieldAddr E.P 23 x1 2) fun u19 => (k1 (xload E.P m 3 u19) fun u20 => (k1 (mbin E .add 3 u18 u20) fun u21 => (k1 (mfieldAddr E.P 23 x1 1) fun u22 => (k1 (xload E.P m 3 u22) fun u23 => (k1 (mbin E .sub 3 u23 x4) fun u24 => (k1 (mbin E .add 3 u24 x25) fun u25 => (kc (kB m (call m.length 76 [u21, u25] m)) (fun u26 m => (k1 (mindexAddr E.P 27 u16 x25) fun u27 => (ks (xstore E.P base m 3 u27 u26) fun m => (k1 (mbin E .add 3 x25 (.int .i64 1)) fun u28 => (ih x1 x3 x4 x10 x11 x24 u28 m))))) (fun _ _ => none))))))))))))) (kx2 x1 x3 x10 x11 m)))) n
noncomputable def r49_L0 (call : CallF) (fuel base : Nat) (kx0 : Value → M → Res2) (n : Nat) : Value → Value → Value → Value → M → Res2 :=
  Nat.rec (motive := fun _ => Value → Value → Value → Value → M → Res2) (fun _ _ _ _ _ => none)
    (fun _ ih x1 x3 x10 x11 m =>
      (k1 (mbin E .lss 3 x11 x10) fun u6 => (kb u6 (k1 (mfieldAddr E.P 23 x1 0) fun u7 => (k1 (xload E.P m 3 u7) fun u8 => (k2 (xmakeSlice E.P m 27 u8 u8) fun u9 m => (k1 (mindexAddr E.P 33 x3 x11) fun u10 => (ks (xstore E.P base m 27 u10 u9) fun m => (k1 (mindexAddr E.P 33 x3 x11) fun u11 => (k1 (xload E.P m 27 u11) fun u12 => (k2 (vcall E.P base m .len [27] [u12]) fun u13 m => (r49_L2 call fuel base (fun w29 w30 w31 w32 m => (k1 (mbin E .add 3 w32 (.int .i64 1)) fun u33 => (ih w29 w30 w31 u33 m))) fuel x1 x3 x11 x10 x11 u13 (.int .i64 0) m))))))))) (kx0 x3 m)))) n
noncomputable def r49 (call : CallF) (fuel base : Nat) (x0 : Value) (m : M) : Res2 :=
  (k2 (xbox m x0) fun u1 m => (k1 (mfieldAddr E.P 23 u1 0) fun u2 => (k1 (xload E.P m 3 u2) fun u3 => (k2 (xmakeSlice E.P m 33 u3 u3) fun u4 m => (k2 (vcall E.P base m .len [33] [u4]) fun u5 m => (r49_L0 call fuel base (fun w34 m => (kc (call base 77 [w34] m) (fun u35 m => (fVal u35 fun v => some (.ret v, m))) (fun v m => some (.pan v, m)))) fuel u1 u4 u5 (.int .i64 0) m))))))
def keep49 : Keep := { region := fun i => ([[1], [1, 3], [1, 3, 10, 11], [1, 3, 10, 11, 12], [1, 3, 4, 10, 11], [1, 3, 4, 10, 11], [1, 3, 4, 10, 11, 24, 25], [1, 3, 4, 10, 11, 24, 25, 26], [1, 3, 4, 5, 10, 11, 24, 25], [1, 3, 4, 10, 11, 24, 25], [1, 3, 4, 10, 11, 24, 25], [1, 3, 10, 11], [2]] : List (List Nat))[i]?, exit := fun i => ([[3], [1, 3, 10, 11], [1, 3, 10, 11], [1, 3, 4, 10, 11, 24, 25]] : List (List Nat))[i]?, ret := some [2] }
noncomputable def r49_L2_R (call : CallF) (fuel base n : Nat) (vs : List Value) (m : M) (K : KT) : Res2 := match vs with
  | [x1, x3, x4, x10, x11, x24, x25] => r49_L2 call fuel base (fun y1 y3 y10 y11 m => K (.exit 2) { n := 50, l := [(1, y1), (3, y3), (10, y10), (11, y11)] } m) n x1 x3 x4 x10 x11 x24 x25 m
  | _ => none
noncomputable def r49_L0_R (call : CallF) (fuel base n : Nat) (vs : List Value) (m : M) (K : KT) : Res2 := match vs with
  | [x1, x3, x10, x11] => r49_L0 call fuel base (fun y3 m => K (.exit 0) { n := 50, l := [(3, y3)] } m) n x1 x3 x10 x11 m
  | _ => none
noncomputable def lp49 (call : CallF) (fuel base : Nat) : Lp := lpsel [(2, fun T m K => kslots 50 [1, 3, 4, 10, 11, 24, 25] T fun vs => r49_L2_R call fuel base fuel vs m K), (0, fun T m K => kslots 50 [1, 3, 10, 11] T fun vs => r49_L0_R call fuel base fuel vs m K)]
noncomputable def c49 : Code := Try.f49.body.getD .skip
theorem r49_L2_lk (call : CallF) (fuel base : Nat) : LoopsOk E call (lp49 call fuel base) fuel base 2 (loopB (blockB (seqR (seqR (seqR (blockB (seqL (seqR (seqR (loopB (blockB (seqR (seqL (seqR (seqR c49))))))))))))))) = (And True (And (And True True) (And (And True True) True))) := by kernel_rfl
theorem r49_L2_ok (call : CallF) (fuel base : Nat) : LpOk E call (lp49 call fuel base) fuel base 2 (loopB (blockB (seqR (seqR (seqR (blockB (seqL (seqR (seqR (loopB (blockB (seqR (seqL (seqR (seqR c49))))))))))))))) := by
  refine loop_ok (kp := keep49) (hb := Eq.mpr (r49_L2_lk call fuel base) (And.intro trivial (And.intro (And.intro trivial trivial) (And.intro (And.intro trivial trivial) trivial)))) 50 [1, 3, 4, 10, 11, 24, 25] (fun n vs m K => r49_L2_R call fuel base n vs m K) ?_ ?_ (fun _ _ _ => rfl)
  · intro vs m K
    unfold r49_L2_R
    split <;> rfl
  · intro n vs m K hl
    match vs, hl with
    | [x1, x3, x4, x10, x11, x24, x25], _ => show _ = _; kernel_rfl
theorem r49_L0_lk (call : CallF) (fuel base : Nat) : LoopsOk E call (lp49 call fuel base) fuel base 0 (loopB (blockB (seqR (seqL (seqR (seqR c49)))))) = (And True (And (And True True) (And (And True (And True (And True (LpOk E call (lp49 call fuel base) fuel base 2 (loopB (blockB (seqR (seqR (seqR (blockB (seqL (seqR (seqR (loopB (blockB (seqR (seqL (seqR (seqR c49))))))))))))))))))) True))) := by kernel_rfl
theorem r49_L0_ok (call : CallF) (fuel base : Nat) : LpOk E call (lp49 call fuel base) fuel base 0 (loopB (blockB (seqR (seqL (seqR (seqR c49)))))) := by
  refine loop_ok (kp := keep49) (hb := Eq.mpr (r49_L0_lk call fuel base) (And.intro trivial (And.intro (And.intro trivial trivial) (And.intro (And.intro trivial (And.intro trivial (And.intro trivial (r49_L2_ok call fuel base)))) trivial)))) 50 [1, 3, 10, 11] (fun n vs m K => r49_L0_R call fuel base n vs m K) ?_ ?_ (fun _ _ _ => rfl)
  · intro vs m K
    unfold r49_L0_R
    split <;> rfl
  · intro n vs m K hl
    match vs, hl with
    | [x1, x3, x10, x11], _ => show _ = _; kernel_rfl
theorem r49_eq (call : CallF) (fuel base : Nat) (x0 : Value) (m : M) : kbody E call keep49 (lp49 call fuel base) base Try.f49 [x0] m = r49 call fuel base x0 m := by
  kernel_rfl
noncomputable def rf49 : RF := fun call fuel base args m => match args with
  | [x0] => r49 call fuel base x0 m
  | _ => none
theorem r49_lk (call : CallF) (fuel base : Nat) : LoopsOk E call (lp49 call fuel base) fuel base 0 c49 = (And True (And True (And (And True (LpOk E call (lp49 call fuel base) fuel base 0 (loopB (blockB (seqR (seqL (seqR (seqR c49)))))))) (And True True)))) := by kernel_rfl
theorem r49_fn : E.P.funcs[49]? = some Try.f49 := by kernel_rfl
theorem r49_body : Try.f49.body = some c49 := by kernel_rfl
theorem rf49_ok : RFok E 49 rf49 := by
  show RFok' E 49 rf49
  refine ⟨Try.f49, r49_fn, fun call fuel base args m r _ h => ?_⟩
  unfold rf49 at h
  split at h
  · rw [← r49_eq] at h
    exact kbody_sound (c := c49) r49_body (Eq.mpr (r49_lk call fuel base) (And.intro trivial (And.intro trivial (And.intro (And.intro trivial (r49_L0_ok call fuel base)) (And.intro trivial trivial))))) h
  · simp at h
end Go.AM
namespace Go.AM
open Go Go.Proofs
noncomputable def r50 (call : CallF) (fuel base : Nat) (x0 : Value) (m : M) : Res2 :=
  (k2 (xbox m x0) fun u1 m => (k1 (mfieldAddr E.P 23 u1 0) fun u2 => (k1 (xload E.P m 3 u2) fun u3 => (k1 (mbin E .geq 3 u3 (.int .i64 1)) fun u4 => (kb u4 (k1 (mfieldAddr E.P 23 u1 0) fun u5 => (k1 (xload E.P m 3 u5) fun u6 => (k1 (mbin E .leq 3 u6 (.int .i64 4)) fun u7 => (kb u7 (k1 (mfieldAddr E.P 23 u1 1) fun u8 => (k1 (xload E.P m 3 u8) fun u9 => (k1 (mbin E .geq 3 u9 (.int .i64 1)) fun u10 => (kb u10 (k1 (mfieldAddr E.P 23 u1 1) fun u11 => (k1 (xload E.P m 3 u11) fun u12 => (k1 (mbin E .leq 3 u12 (.int .i64 4)) fun u13 => (kb u13 (k1 (mfieldAddr E.P 23 u1 2) fun u14 => (k1 (xload E.P m 3 u14) fun u15 => (k1 (mbin E .geq 3 u15 (.int .i64 1)) fun u16 => (kb u16 (k1 (mfieldAddr E.P 23 u1 2) fun u17 => (k1 (xload E.P m 3 u17) fun u18 => (k1 (mbin E .leq 3 u18 (.int .i64 4)) fun u19 => (fVal u19 fun v => some (.ret v, m))))) (fVal (.bool false) fun v => some (.ret v, m)))))) (fVal (.bool false) fun v => some (.ret v, m)))))) (fVal (.bool false) fun v => some (.ret v, m)))))) (fVal (.bool false) fun v => some (.ret v, m)))))) (fVal (.bool false) fun v => some (.ret v, m)))))))
def keep50 : Keep := { region := fun i => ([[1], [2]] : List (List Nat))[i]?, exit := fun i => ([] : List (List Nat))[i]?, ret := some [2] }
noncomputable def lp50 (call : CallF) (fuel base : Nat) : Lp := lpsel []
noncomputable def c50 : Code := Try.f50.body.getD .skip
theorem r50_eq (call : CallF) (fuel base : Nat) (x0 : Value) (m : M) : kbody E call keep50 (lp50 call fuel base) base Try.f50 [x0] m = r50 call fuel base x0 m := by
  kernel_rfl
noncomputable def rf50 : RF := fun call fuel base args m => match args with
  | [x0] => r50 call fuel base x0 m
  | _ => none
theorem r50_lk (call : CallF) (fuel base : Nat) : LoopsOk E call (lp50 call fuel base) fuel base 0 c50 = (And True (And True True)) := by kernel_rfl
theorem r50_fn : E.P.funcs[50]? = some Try.f50 := by kernel_rfl
theorem r50_body : Try.f50.body = some c50 := by kernel_rfl
theorem rf50_ok : RFok E 50 rf50 := by
  show RFok' E 50 rf50
  refine ⟨Try.f50, r50_fn, fun call fuel base args m r _ h => ?_⟩
  unfold rf50 at h
  split at h
  · rw [← r50_eq] at h
    exact kbody_sound (c := c50) r50_body (Eq.mpr (r50_lk call fuel base) (And.intro trivial (And.intro trivial trivial))) h
  · simp at h
end Go.AM
namespace Go.AM
open Go Go.Proofs
noncomputable def r51 (call : CallF) (fuel base : Nat) (x0 : Value) (x1 : Value) (m : M) : Res2 :=
  (k1 (mbin E .lss 3 x1 (.int .i64 0)) fun u1 => (kb u1 (fVal (.int .i64 0) fun v => some (.ret v, m)) (k1 (mbin E .gtr 3 x1 x0) fun u2 => (kb u2 (fVal (.int .i64 0) fun v => some (.ret v, m)) (k1 (mbin E .eql 3 x1 (.int .i64 0)) fun u3 => (kb u3 (fVal (.int .i64 1) fun v => some (.ret v, m)) (k1 (mbin E .eql 3 x1 x0) fun u4 => (kb u4 (fVal (.int .i64 1) fun v => some (.ret v, m)) (k1 (mbin E .sub 3 x0 (.int .i64 1)) fun u5 => (k1 (mbin E .sub 3 x1 (.int .i64 1)) fun u6 => (kc (call base 51 [u5, u6] m) (fun u7 m => (k1 (mbin E .sub 3 x0 (.int .i64 1)) fun u8 => (kc (call base 51 [u8, x1] m) (fun u9 m => (k1 (mbin E .add 3 u7 u9) fun u10 => (fVal u10 fun v => some (.ret v, m)))) (fun v m => some (.pan v, m))))) (fun v m => some (.pan v, m)))))))))))))
def keep51 : Keep := { region := fun i => ([[0, 1], [0, 1, 11], [4], [0, 1, 18], [4], [4]] : List (List Nat))[i]?, exit := fun i => ([] : List (List Nat))[i]?, ret := some [4] }
noncomputable def lp51 (call : CallF) (fuel base : Nat) : Lp := lpsel []
noncomputable def c51 : Code := Try.f51.body.getD .skip
theorem r51_eq (call : CallF) (fuel base : Nat) (x0 : Value) (x1 : Value) (m : M) : kbody E call keep51 (lp51 call fuel base) base Try.f51 [x0, x1] m = r51 call fuel base x0 x1 m := by
  kernel_rfl
noncomputable def rf51 : RF := fun call fuel base args m => match args with
  | [x0, x1] => r51 call fuel base x0 x1 m
  | _ => none
theorem r51_lk (call : CallF) (fuel base : Nat) : LoopsOk E call (lp51 call fuel base) fuel base 0 c51 = (And True (And (And True (And (And True True) True)) (And (And True (And (And True True) True)) (And True True)))) := by kernel_rfl
theorem r51_fn : E.P.funcs[51]? = some Try.f51 := by kernel_rfl
theorem r51_body : Try.f51.body = some c51 := by kernel_rfl
theorem rf51_ok : RFok E 51 rf51 := by
  show RFok' E 51 rf51
  refine ⟨Try.f51, r51_fn, fun call fuel base args m r _ h => ?_⟩
  unfold rf51 at h
  split at h
  · rw [← r51_eq] at h
    exact kbody_sound (c := c51) r51_body (Eq.mpr (r51_lk call fuel base) (And.intro trivial (And.intro (And.intro trivial (And.intro (And.intro trivial trivial) trivial)) (And.intro (And.intro trivial (And.intro (And.intro trivial trivial) trivial)) (And.intro trivial trivial))))) h
  · simp at h
end Go.AM
namespace Go.AM
open Go Go.Proofs
noncomputable def r52_L2 (call : CallF) (fuel base : Nat) (kx2 : Value → Value → Value → Value → Value → M → Res2) (n : Nat) : Value → Value → Value → Value → Value → Value → M → Res2 :=
  Nat.rec (motive := fun _ => Value → Value → Value → Value → Value → Value → M → Res2) (fun _ _ _ _ _ _ _ => none)
    (fun _ ih x0 x3 x4 x5 x6 x7 m =>
      (k2 (vcall E.P base m .len [33] [x0]) fun u5 m => (k1 (mbin E .lss 3 x7 u5) fun u6 => (kb u6 (k1 (mindexAddr E.P 33 x0 x7) fun u7 => (k1 (xload E.P m 27 u7) fun u8 => (k1 (mslice E.P m 27 u8 none (some x5) none) fun u9 => (k2 (vcall E.P base m .append [27, 27] [(.slice none 0 0), u9]) fun u10 m => (k1 (mindexAddr E.P 33 x0 x7) fun u11 => (k1 (xload E.P m 27 u11) fun u12 => (k1 (mbin E .add 3 x5 (.int .i64 1)) fun u13 => (k1 (mslice E.P m 27 u12 (some u13) none none) fun u14 => (k2 (vcall E.P base m .append [27, 27] [u10, u14]) fun u15 m => (k2 (xbuildSlice E.P m 33 1 [(0, u15)]) fun u16 m => (k2 (vcall E.P base m .append [33, 33] [x6, u16]) fun u17 m => (k1 (mbin E .add 3 x7 (.int .i64 1)) fun u18 => (ih x0 x3 x4 x5 u17 u18 m))))))))))))) (kx2 x0 x3 x4 x5 x6 m))))) n
noncomputable def r52_L0 (call : CallF) (fuel base : Nat) (kx0 : Value → M → Res2) (n : Nat) : Value → Value → Value → Value → M → Res2 :=
  Nat.rec (motive := fun _ => Value → Value → Value → Value → M → Res2) (fun _ _ _ _ _ => none)
    (fun _ ih x0 x3 x4 x5 m =>
      (k2 (vcall E.P base m .len [33] [x0]) fun u3 m => (k1 (mbin E .lss 3 x5 u3) fun u4 => (kb u4 (r52_L2 call fuel base (fun w19 w20 w21 w22 w23 m => (k1 (mindexAddr E.P 33 w19 (.int .i64 0)) fun u24 => (k1 (xload E.P m 27 u24) fun u25 => (k1 (mindexAddr E.P 27 u25 w22) fun u26 => (k1 (xload E.P m 3 u26) fun u27 => (k1 (mbin E .mul 3 w21 u27) fun u28 => (kc (kB m (call m.length 52 [w23] m)) (fun u29 m => (k1 (mbin E .mul 3 u28 u29) fun u30 => (k1 (mbin E .add 3 w20 u30) fun u31 => (k1 (mun .neg w21) fun u32 => (k1 (mbin E .add 3 w22 (.int .i64 1)) fun u33 => (ih w19 u31 u32 u33 m)))))) (fun _ _ => none)))))))) fuel x0 x3 x4 x5 (.slice none 0 0) (.int .i64 1) m) (kx0 x3 m))))) n
noncomputable def r52 (call : CallF) (fuel base : Nat) (x0 : Value) (m : M) : Res2 :=
  (k2 (vcall E.P base m .len [33] [x0]) fun u1 m => (k1 (mbin E .eql 3 u1 (.int .i64 0)) fun u2 => (kb u2 (fVal (.int .i64 1) fun v => some (.ret v, m)) (r52_L0 call fuel base (fun w34 m => (fVal w34 fun v => some (.ret v, m))) fuel x0 (.int .i64 0) (.int .i64 1) (.int .i64 0) m))))
def keep52 : Keep := { region := fun i => ([[0], [0, 11], [2], [0, 3, 4], [0, 3, 4, 5], [0, 3, 4, 5, 15], [0, 3, 4, 5], [0, 3, 4, 5, 6], [0, 3, 4, 5, 6, 7], [0, 3, 4, 5, 6, 7, 21], [0, 3, 4, 5, 6, 7], [0, 3, 4, 5, 6, 7, 8], [0, 3, 4, 5, 6, 7, 8], [0, 3, 4, 5, 6, 7], [0, 3, 4, 5], [0, 3, 4, 5], [2]] : List (List Nat))[i]?, exit := fun i => ([[3], [0, 3, 4, 5], [0, 3, 4, 5, 6], [0, 3, 4, 5, 6, 7]] : List (List Nat))[i]?, ret := some [2] }
noncomputable def r52_L2_R (call : CallF) (fuel base n : Nat) (vs : List Value) (m : M) (K : KT) : Res2 := match vs with
  | [x0, x3, x4, x5, x6, x7] => r52_L2 call fuel base (fun y0 y3 y4 y5 y6 m => K (.exit 2) { n := 60, l := [(0, y0), (3, y3), (4, y4), (5, y5), (6, y6)] } m) n x0 x3 x4 x5 x6 x7 m
  | _ => none
noncomputable def r52_L0_R (call : CallF) (fuel base n : Nat) (vs : List Value) (m : M) (K : KT) : Res2 := match vs with
  | [x0, x3, x4, x5] => r52_L0 call fuel base (fun y3 m => K (.exit 0) { n := 60, l := [(3, y3)] } m) n x0 x3 x4 x5 m
  | _ => none
noncomputable def lp52 (call : CallF) (fuel base : Nat) : Lp := lpsel [(2, fun T m K => kslots 60 [0, 3, 4, 5, 6, 7] T fun vs => r52_L2_R call fuel base fuel vs m K), (0, fun T m K => kslots 60 [0, 3, 4, 5] T fun vs => r52_L0_R call fuel base fuel vs m K)]
noncomputable def c52 : Code := Try.f52.body.getD .skip
theorem r52_L2_lk (call : CallF) (fuel base : Nat) : LoopsOk E call (lp52 call fuel base) fuel base 2 (loopB (blockB (seqR (seqL (seqR (blockB (seqL (seqR (loopB (blockB (seqR (seqL (seqR (seqR (seqR c52))))))))))))))) = (And (And True (And True True)) (And (And True (And True True)) True)) := by kernel_rfl
theorem r52_L2_ok (call : CallF) (fuel base : Nat) : LpOk E call (lp52 call fuel base) fuel base 2 (loopB (blockB (seqR (seqL (seqR (blockB (seqL (seqR (loopB (blockB (seqR (seqL (seqR (seqR (seqR c52))))))))))))))) := by
  refine loop_ok (kp := keep52) (hb := Eq.mpr (r52_L2_lk call fuel base) (And.intro (And.intro trivial (And.intro trivial trivial)) (And.intro (And.intro trivial (And.intro trivial trivial)) trivial))) 60 [0, 3, 4, 5, 6, 7] (fun n vs m K => r52_L2_R call fuel base n vs m K) ?_ ?_ (fun _ _ _ => rfl)
  · intro vs m K
    unfold r52_L2_R
    split <;> rfl
  · intro n vs m K hl
    match vs, hl with
    | [x0, x3, x4, x5, x6, x7], _ => show _ = _; kernel_rfl
theorem r52_L0_lk (call : CallF) (fuel base : Nat) : LoopsOk E call (lp52 call fuel base) fuel base 0 (loopB (blockB (seqR (seqL (seqR (seqR (seqR c52))))))) = (And (And True (And True True)) (And (And True (And (And True (LpOk E call (lp52 call fuel base) fuel base 2 (loopB (blockB (seqR (seqL (seqR (blockB (seqL (seqR (loopB (blockB (seqR (seqL (seqR (seqR (seqR c52))))))))))))))))) (And True True))) True)) := by kernel_rfl
theorem r52_L0_ok (call : CallF) (fuel base : Nat) : LpOk E call (lp52 call fuel base) fuel base 0 (loopB (blockB (seqR (seqL (seqR (seqR (seqR c52))))))) := by
  refine loop_ok (kp := keep52) (hb := Eq.mpr (r52_L0_lk call fuel base) (And.intro (And.intro trivial (And.intro trivial trivial)) (And.intro (And.intro trivial (And.intro (And.intro trivial (r52_L2_ok call fuel base)) (And.intro trivial trivial))) trivial))) 60 [0, 3, 4, 5] (fun n vs m K => r52_L0_R call fuel base n vs m K) ?_ ?_ (fun _ _ _ => rfl)
  · intro vs m K
    unfold r52_L0_R
    split <;> rfl
  · intro n vs m K hl
    match vs, hl with
    | [x0, x3, x4, x5], _ => show _ = _; kernel_rfl
theorem r52_eq (call : CallF) (fuel base : Nat) (x0 : Value) (m : M) : kbody E call keep52 (lp52 call fuel base) base Try.f52 [x0] m = r52 call fuel base x0 m := by
  kernel_rfl
noncomputable def rf52 : RF := fun call fuel base args m => match args with
  | [x0] => r52 call fuel base x0 m
  | _ => none
theorem r52_lk (call : CallF) (fuel base : Nat) : LoopsOk E call (lp52 call fuel base) fuel base 0 c52 = (And True (And (And True (And (And True True) True)) (And True (And (And True (LpOk E call (lp52 call fuel base) fuel base 0 (loopB (blockB (seqR (seqL (seqR (seqR (seqR c52))))))))) (And True True))))) := by kernel_rfl
theorem r52_fn : E.P.funcs[52]? = some Try.f52 := by kernel_rfl
theorem r52_body : Try.f52.body = some c52 := by kernel_rfl
theorem rf52_ok : RFok E 52 rf52 := by
  show RFok' E 52 rf52
  refine ⟨Try.f52, r52_fn, fun call fuel base args m r _ h => ?_⟩
  unfold rf52 at h
  split at h
  · rw [← r52_eq] at h
    exact kbody_sound (c := c52) r52_body (Eq.mpr (r52_lk call fuel base) (And.intro trivial (And.intro (And.intro trivial (And.intro (And.intro trivial trivial) trivial)) (And.intro trivial (And.intro (And.intro trivial (r52_L0_ok call fuel base)) (And.intro trivial trivial)))))) h
  · simp at h
end Go.AM
namespace Go.AM
open Go Go.Proofs
noncomputable def r54_L0 (call : CallF) (fuel base : Nat) (kx0 : Value → M → Res2) (n : Nat) : Value → Value → Value → M → Res2 :=
  Nat.rec (motive := fun _ => Value → Value → Value → M → Res2) (fun _ _ _ _ => none)
    (fun _ ih x1 x3 x4 m =>
      (k1 (mfieldAddr E.P 23 x1 0) fun u2 => (k1 (xload E.P m 3 u2) fun u3 => (k1 (mbin E .lss 3 x4 u3) fun u4 => (kb u4 (k1 (mfieldAddr E.P 23 x1 1) fun u5 => (k1 (xload E.P m 3 u5) fun u6 => (k2 (xmakeSlice E.P m 27 u6 u6) fun u7 m => (k2 (xbuildSlice E.P m 33 1 [(0, u7)]) fun u8 m => (k2 (vcall E.P base m .append [33, 33] [x3, u8]) fun u9 m => (k1 (mbin E .add 3 x4 (.int .i64 1)) fun u10 => (ih x1 u9 u10 m))))))) (kx0 x3 m)))))) n
noncomputable def r54 (call : CallF) (fuel base : Nat) (x0 : Value) (m : M) : Res2 :=
  (k2 (xbox m x0) fun u1 m => (r54_L0 call fuel base (fun w11 m => (fVal w11 fun v => some (.ret v, m))) fuel u1 (.slice none 0 0) (.int .i64 0) m))
def keep54 : Keep := { region := fun i => ([[1], [1, 3], [1, 3, 4], [1, 3, 4, 8], [1, 3, 4], [1, 3, 4], [2]] : List (List Nat))[i]?, exit := fun i => ([[3], [1, 3, 4]] : List (List Nat))[i]?, ret := some [2] }
noncomputable def r54_L0_R (call : CallF) (fuel base n : Nat) (vs : List Value) (m : M) (K : KT) : Res2 := match vs with
  | [x1, x3, x4] => r54_L0 call fuel base (fun y3 m => K (.exit 0) { n := 18, l := [(3, y3)] } m) n x1 x3 x4 m
  | _ => none
noncomputable def lp54 (call : CallF) (fuel base : Nat) : Lp := lpsel [(0, fun T m K => kslots 18 [1, 3, 4] T fun vs => r54_L0_R call fuel base fuel vs m K)]
noncomputable def c54 : Code := Try.f54.body.getD .skip
theorem r54_L0_lk (call : CallF) (fuel base : Nat) : LoopsOk E call (lp54 call fuel base) fuel base 0 (loopB (blockB (seqR (seqL (seqR (seqR c54)))))) = (And (And True (And True True)) (And True True)) := by kernel_rfl
theorem r54_L0_ok (call : CallF) (fuel base : Nat) : LpOk E call (lp54 call fuel base) fuel base 0 (loopB (blockB (seqR (seqL (seqR (seqR c54)))))) := by
  refine loop_ok (kp := keep54) (hb := Eq.mpr (r54_L0_lk call fuel base) (And.intro (And.intro trivial (And.intro trivial trivial)) (And.intro trivial trivial))) 18 [1, 3, 4] (fun n vs m K => r54_L0_R call fuel base n vs m K) ?_ ?_ (fun _ _ _ => rfl)
  · intro vs m K
    unfold r54_L0_R
    split <;> rfl
  · intro n vs m K hl
    match vs, hl with
    | [x1, x3, x4], _ => show _ = _; kernel_rfl
theorem r54_eq (call : CallF) (fuel base : Nat) (x0 : Value) (m : M) : kbody E call keep54 (lp54 call fuel base) base Try.f54 [x0] m = r54 call fuel base x0 m := by
  kernel_rfl
noncomputable def rf54 : RF := fun call fuel base args m => match args with
  | [x0] => r54 call fuel base x0 m
  | _ => none
theorem r54_lk (call : CallF) (fuel base : Nat) : LoopsOk E call (lp54 call fuel base) fuel base 0 c54 = (And True (And True (And (And True (LpOk E call (lp54 call fuel base) fuel base 0 (loopB (blockB (seqR (seqL (seqR (seqR c54)))))))) (And True True)))) := by kernel_rfl
theorem r54_fn : E.P.funcs[54]? = some Try.f54 := by kernel_rfl
theorem r54_body : Try.f54.body = some c54 := by kernel_rfl
theorem rf54_ok : RFok E 54 rf54 := by
  show RFok' E 54 rf54
  refine ⟨Try.f54, r54_fn, fun call fuel base args m r _ h => ?_⟩
  unfold rf54 at h
  split at h
  · rw [← r54_eq] at h
    exact kbody_sound (c := c54) r54_body (Eq.mpr (r54_lk call fuel base) (And.intro trivial (And.intro trivial (And.intro (And.intro trivial (r54_L0_ok call fuel base)) (And.intro trivial trivial))))) h
  · simp at h
end Go.AM
namespace Go.AM
open Go Go.Proofs
noncomputable def r55_L2 (call : CallF) (fuel base : Nat) (kp : Value → M → Res2) (kr : Value → Value → M → Res2) (kx2 : Value → Value → Value → Value → Value → Value → M → Res2) (n : Nat) : Value → Value → Value → Value → Value → Value → Value → Value → Value → Value → M → Res2 :=
  Nat.rec (motive := fun _ => Value → Value → Value → Value → Value → Value → Value → Value → Value → Value → M → Res2) (fun _ _ _ _ _ _ _ _ _ _ _ => none)
    (fun _ ih x2 x4 x6 x7 x19 x20 x21 x32 x33 x34 m =>
      (k1 (mbin E .lss 3 x34 x33) fun u22 => (kb u22 (k1 (mindexAddr E.P 27 x32 x34) fun u23 => (k1 (xload E.P m 3 u23) fun u24 => (k1 (mbin E .lss 3 u24 (.int .i64 0)) fun u25 => (kb u25 (k1 (mbuild E.P 79 []) fun u26 => (ks (xstore E.P base m 79 x4 u26) fun m => (kr x4 (.bool false) m))) (k1 (xload E.P m 79 x6) fun u27 => (kc (call base 80 [u27, x7, x34] m) (fun u28 m => (k1 (mbin E .gtr 3 u24 u28) fun u29 => (kb u29 (k1 (mbuild E.P 79 []) fun u30 => (ks (xstore E.P base m 79 x4 u30) fun m => (kr x4 (.bool false) m))) (k1 (mfieldAddr E.P 79 x6 1) fun u31 => (k1 (mindexAddr E.P 77 u31 x7) fun u32 => (k1 (mindexAddr E.P 76 u32 x34) fun u33 => (ks (xstore E.P base m 3 u33 u24) fun m => (k1 (mbin E .add 3 x34 (.int .i64 1)) fun u34 => (ih x2 x4 x6 x7 x19 x20 x21 x32 x33 u34 m))))))))) (fun v m => kp v m))))))) (kx2 x2 x4 x6 x19 x20 x21 m)))) n
noncomputable def r55_L0 (call : CallF) (fuel base : Nat) (kp : Value → M → Res2) (kr : Value → Value → M → Res2) (kx0 : Value → Value → M → Res2) (n : Nat) : Value → Value → Value → Value → Value → Value → M → Res2 :=
  Nat.rec (motive := fun _ => Value → Value → Value → Value → Value → Value → M → Res2) (fun _ _ _ _ _ _ _ => none)
    (fun _ ih x2 x4 x6 x19 x20 x21 m =>
      (k1 (mbin E .lss 3 x21 x20) fun u13 => (kb u13 (k1 (mindexAddr E.P 33 x19 x21) fun u14 => (k1 (xload E.P m 27 u14) fun u15 => (k2 (vcall E.P base m .len [27] [u15]) fun u16 m => (k1 (mfieldAddr E.P 23 x2 1) fun u17 => (k1 (xload E.P m 3 u17) fun u18 => (k1 (mbin E .neq 3 u16 u18) fun u19 => (kb u19 (k1 (mbuild E.P 79 []) fun u20 => (ks (xstore E.P base m 79 x4 u20) fun m => (kr x4 (.bool false) m))) (k2 (vcall E.P base m .len [27] [u15]) fun u21 m => (r55_L2 call fuel base (fun v m => kp v m) (fun w35 w36 m => (kr w35 w36 m)) (fun w37 w38 w39 w40 w41 w42 m => (k1 (mbin E .add 3 w42 (.int .i64 1)) fun u43 => (ih w37 w38 w39 w40 w41 u43 m))) fuel x2 x4 x6 x21 x19 x20 x21 u15 u21 (.int .i64 0) m))))))))) (kx0 x4 x6 m)))) n
noncomputable def r55 (call : CallF) (fuel base : Nat) (x0 : Value) (x1 : Value) (m : M) : Res2 :=
  (k2 (xbox m x0) fun u1 m => (k2 (xalloc E.P m 79) fun u2 m => (k2 (vcall E.P base m .len [33] [x1]) fun u3 m => (k1 (mfieldAddr E.P 23 u1 0) fun u4 => (k1 (xload E.P m 3 u4) fun u5 => (k1 (mbin E .neq 3 u3 u5) fun u6 => (kb u6 (k1 (mbuild E.P 79 []) fun u7 => (ks (xstore E.P base m 79 u2 u7) fun m => (k0 (mload E.P m 79 u2) fun r_8 => (some (.ret (.tuple #[r_8, (.bool false)]), m))))) (k1 (xload E.P m 23 u1) fun u9 => (k1 (mbuild E.P 79 [(0, u9)]) fun u10 => (k2 (xalloc E.P m 79) fun u11 m => (ks (xstore E.P base m 79 u11 u10) fun m => (k2 (vcall E.P base m .len [33] [x1]) fun u12 m => (r55_L0 call fuel base (fun v m => some (.pan v, m)) (fun w44 w45 m => (k0 (mload E.P m 79 w44) fun r_46 => (some (.ret (.tuple #[r_46, w45]), m)))) (fun w47 w48 m => (k1 (xload E.P m 79 w48) fun u49 => (ks (xstore E.P base m 79 w47 u49) fun m => (k0 (mload E.P m 79 w47) fun r_50 => (some (.ret (.tuple #[r_50, (.bool true)]), m)))))) fuel u1 u2 u11 x1 u12 (.int .i64 0) m)))))))))))))
def keep55 : Keep := { region := fun i => ([[1, 2, 4], [1, 2, 4, 15], [4, 5], [1, 2, 4, 6], [2, 4, 6, 19, 20, 21], [2, 4, 6, 19, 20, 21, 22], [2, 4, 6, 7, 8, 19, 20, 21], [2, 4, 6, 7, 8, 19, 20, 21, 30], [4, 5], [2, 4, 6, 7, 19, 20, 21, 32, 33, 34], [2, 4, 6, 7, 19, 20, 21, 32, 33, 34, 35], [2, 4, 6, 7, 9, 10, 19, 20, 21, 32, 33, 34], [2, 4, 6, 7, 9, 10, 19, 20, 21, 32, 33, 34, 48], [4, 5], [2, 4, 6, 7, 19, 20, 21, 32, 33, 34], [2, 4, 6, 7, 19, 20, 21, 32, 33, 34], [2, 4, 6, 19, 20, 21], [4, 5]] : List (List Nat))[i]?, exit := fun i => ([[4, 6], [2, 4, 6, 19, 20, 21], [2, 4, 6, 19, 20, 21], [2, 4, 6, 7, 19, 20, 21, 32, 33, 34]] : List (List Nat))[i]?, ret := some [4, 5] }
noncomputable def r55_L2_R (call : CallF) (fuel base n : Nat) (vs : List Value) (m : M) (K : KT) : Res2 := match vs with
  | [x2, x4, x6, x7, x19, x20, x21, x32, x33, x34] => r55_L2 call fuel base (fun v m => K (.pan v) { n := 59, l := [] } m) (fun y4 y5 m => K .ret { n := 59, l := [(4, y4), (5, y5)] } m) (fun y2 y4 y6 y19 y20 y21 m => K (.exit 2) { n := 59, l := [(2, y2), (4, y4), (6, y6), (19, y19), (20, y20), (21, y21)] } m) n x2 x4 x6 x7 x19 x20 x21 x32 x33 x34 m
  | _ => none
noncomputable def r55_L0_R (call : CallF) (fuel base n : Nat) (vs : List Value) (m : M) (K : KT) : Res2 := match vs with
  | [x2, x4, x6, x19, x20, x21] => r55_L0 call fuel base (fun v m => K (.pan v) { n := 59, l := [] } m) (fun y4 y5 m => K .ret { n := 59, l := [(4, y4), (5, y5)] } m) (fun y4 y6 m => K (.exit 0) { n := 59, l := [(4, y4), (6, y6)] } m) n x2 x4 x6 x19 x20 x21 m
  | _ => none
noncomputable def lp55 (call : CallF) (fuel base : Nat) : Lp := lpsel [(2, fun T m K => kslots 59 [2, 4, 6, 7, 19, 20, 21, 32, 33, 34] T fun vs => r55_L2_R call fuel base fuel vs m K), (0, fun T m K => kslots 59 [2, 4, 6, 19, 20, 21] T fun vs => r55_L0_R call fuel base fuel vs m K)]
noncomputable def c55 : Code := Try.f55.body.getD .skip
theorem r55_L2_lk (call : CallF) (fuel base : Nat) : LoopsOk E call (lp55 call fuel base) fuel base 2 (loopB (blockB (seqR (seqR (seqR (blockB (seqL (seqR (seqR (loopB (blockB (seqR (seqL (seqR (seqR (seqR c55)))))))))))))))) = (And True (And (And True True) (And (And True (And (And True (And (And True True) True)) True)) True))) := by kernel_rfl
theorem r55_L2_ok (call : CallF) (fuel base : Nat) : LpOk E call (lp55 call fuel base) fuel base 2 (loopB (blockB (seqR (seqR (seqR (blockB (seqL (seqR (seqR (loopB (blockB (seqR (seqL (seqR (seqR (seqR c55)))))))))))))))) := by
  refine loop_ok (kp := keep55) (hb := Eq.mpr (r55_L2_lk call fuel base) (And.intro trivial (And.intro (And.intro trivial trivial) (And.intro (And.intro trivial (And.intro (And.intro trivial (And.intro (And.intro trivial trivial) trivial)) trivial)) trivial)))) 59 [2, 4, 6, 7, 19, 20, 21, 32, 33, 34] (fun n vs m K => r55_L2_R call fuel base n vs m K) ?_ ?_ (fun _ _ _ => rfl)
  · intro vs m K
    unfold r55_L2_R
    split <;> rfl
  · intro n vs m K hl
    match vs, hl with
    | [x2, x4, x6, x7, x19, x20, x21, x32, x33, x34], _ => show _ = _; kernel_rfl
theorem r55_L0_lk (call : CallF) (fuel base : Nat) : LoopsOk E call (lp55 call fuel base) fuel base 0 (loopB (blockB (seqR (seqL (seqR (seqR (seqR c55))))))) = (And True (And (And True True) (And (And True (And (And True (And (And True True) True)) (And True (LpOk E call (lp55 call fuel base) fuel base 2 (loopB (blockB (seqR (seqR (seqR (blockB (seqL (seqR (seqR (loopB (blockB (seqR (seqL (seqR (seqR (seqR c55)))))))))))))))))))) True))) := by kernel_rfl
theorem r55_L0_ok (call : CallF) (fuel base : Nat) : LpOk E call (lp55 call fuel base) fuel base 0 (loopB (blockB (seqR (seqL (seqR (seqR (seqR c55))))))) := by
  refine loop_ok (kp := keep55) (hb := Eq.mpr (r55_L0_lk call fuel base) (And.intro trivial (And.intro (And.intro trivial trivial) (And.intro (And.intro trivial (And.intro (And.intro trivial (And.intro (And.intro trivial trivial) trivial)) (And.intro trivial (r55_L2_ok call fuel base)))) trivial)))) 59 [2, 4, 6, 19, 20, 21] (fun n vs m K => r55_L0_R call fuel base n vs m K) ?_ ?_ (fun _ _ _ => rfl)
  · intro vs m K
    unfold r55_L0_R
    split <;> rfl
  · intro n vs m K hl
    match vs, hl with
    | [x2, x4, x6, x19, x20, x21], _ => show _ = _; kernel_rfl
theorem r55_eq (call : CallF) (fuel base : Nat) (x0 : Value) (x1 : Value) (m : M) : kbody E call keep55 (lp55 call fuel base) base Try.f55 [x0, x1] m = r55 call fuel base x0 x1 m := by
  kernel_rfl
noncomputable def rf55 : RF := fun call fuel base args m => match args with
  | [x0, x1] => r55 call fuel base x0 x1 m
  | _ => none
theorem r55_lk (call : CallF) (fuel base : Nat) : LoopsOk E call (lp55 call fuel base) fuel base 0 c55 = (And True (And (And True (And (And True True) True)) (And True (And (And True (LpOk E call (lp55 call fuel base) fuel base 0 (loopB (blockB (seqR (seqL (seqR (seqR (seqR c55))))))))) (And True True))))) := by kernel_rfl
theorem r55_fn : E.P.funcs[55]? = some Try.f55 := by kernel_rfl
theorem r55_body : Try.f55.body = some c55 := by kernel_rfl
theorem rf55_ok : RFok E 55 rf55 := by
  show RFok' E 55 rf55
  refine ⟨Try.f55, r55_fn, fun call fuel base args m r _ h => ?_⟩
  unfold rf55 at h
  split at h
  · rw [← r55_eq] at h
    exact kbody_sound (c := c55) r55_body (Eq.mpr (r55_lk call fuel base) (And.intro trivial (And.intro (And.intro trivial (And.intro (And.intro trivial trivial) trivial)) (And.intro trivial (And.intro (And.intro trivial (r55_L0_ok call fuel base)) (And.intro trivial trivial)))))) h
  · simp at h
end Go.AM
namespace Go.AM
open Go Go.Proofs
noncomputable def r56 (call : CallF) (fuel base : Nat) (x0 : Value) (x1 : Value) (m : M) : Res2 :=
  (k2 (xbox m x0) fun u1 m => (k2 (xalloc E.P m 79) fun u2 m => (k1 (xload E.P m 23 u1) fun u3 => (kc (call base 47 [u3] m) (fun u4 m => (k1 (mun .not u4) fun u5 => (kb u5 (k1 (mbuild E.P 79 []) fun u6 => (ks (xstore E.P base m 79 u2 u6) fun m => (k0 (mload E.P m 79 u2) fun r_7 => (some (.ret (.tuple #[r_7, (.int .i64 2)]), m))))) (k1 (xload E.P m 23 u1) fun u8 => (kc (call base 55 [u8, x1] m) (fun u9 m => (k1 (mextract 0 u9) fun u10 => (k1 (mextract 1 u9) fun u11 => (k2 (xalloc E.P m 79) fun u12 m => (ks (xstore E.P base m 79 u12 u10) fun m => (k1 (mun .not u11) fun u13 => (kb u13 (k1 (mbuild E.P 79 []) fun u14 => (ks (xstore E.P base m 79 u2 u14) fun m => (k0 (mload E.P m 79 u2) fun r_15 => (some (.ret (.tuple #[r_15, (.int .i64 2)]), m))))) (k1 (xload E.P m 79 u12) fun u16 => (ks (xstore E.P base m 79 u2 u16) fun m => (k0 (mload E.P m 79 u2) fun r_17 => (some (.ret (.tuple #[r_17, (.int .i64 0)]), m)))))))))))) (fun v m => some (.pan v, m))))))) (fun v m => some (.pan v, m))))))
def keep56 : Keep := { region := fun i => ([[1, 2, 4], [1, 2, 4, 10], [4, 5], [4, 6, 7], [4, 6, 19], [4, 5], [4, 5]] : List (List Nat))[i]?, exit := fun i => ([] : List (List Nat))[i]?, ret := some [4, 5] }
noncomputable def lp56 (call : CallF) (fuel base : Nat) : Lp := lpsel []
noncomputable def c56 : Code := Try.f56.body.getD .skip
theorem r56_eq (call : CallF) (fuel base : Nat) (x0 : Value) (x1 : Value) (m : M) : kbody E call keep56 (lp56 call fuel base) base Try.f56 [x0, x1] m = r56 call fuel base x0 x1 m := by
  kernel_rfl
noncomputable def rf56 : RF := fun call fuel base args m => match args with
  | [x0, x1] => r56 call fuel base x0 x1 m
  | _ => none
theorem r56_lk (call : CallF) (fuel base : Nat) : LoopsOk E call (lp56 call fuel base) fuel base 0 c56 = (And True (And (And True (And (And True True) True)) (And True (And (And True (And (And True True) True)) (And True True))))) := by kernel_rfl
theorem r56_fn : E.P.funcs[56]? = some Try.f56 := by kernel_rfl
theorem r56_body : Try.f56.body = some c56 := by kernel_rfl
theorem rf56_ok : RFok E 56 rf56 := by
  show RFok' E 56 rf56
  refine ⟨Try.f56, r56_fn, fun call fuel base args m r _ h => ?_⟩
  unfold rf56 at h
  split at h
  · rw [← r56_eq] at h
    exact kbody_sound (c := c56) r56_body (Eq.mpr (r56_lk call fuel base) (And.intro trivial (And.intro (And.intro trivial (And.intro (And.intro trivial trivial) trivial)) (And.intro trivial (And.intro (And.intro trivial (And.intro (And.intro trivial trivial) trivial)) (And.intro trivial trivial)))))) h
  · simp at h
end Go.AM
namespace Go.AM
open Go Go.Proofs
noncomputable def r57_L0 (call : CallF) (fuel base : Nat) (kp : Value → M → Res2) (kx0 : Value → M → Res2) (n : Nat) : Value → Value → Value → Value → Value → Value → Value → M → Res2 :=
  Nat.rec (motive := fun _ => Value → Value → Value → Value → Value → Value → Value → M → Res2) (fun _ _ _ _ _ _ _ _ => none)
    (fun _ ih x1 x3 x4 x5 x19 x20 x21 m =>
      (k1 (mbin E .lss 3 x21 x20) fun u16 => (kb u16 (k1 (mindexAddr E.P 104 x19 x21) fun u17 => (k1 (xload E.P m 76 u17) fun u18 => (k2 (xalloc E.P m 76) fun u19 m => (ks (xstore E.P base m 76 u19 u18) fun m => (k1 (xload E.P m 106 x3) fun u20 => (k1 (xload E.P m 76 x5) fun u21 => (k1 (mfieldAddr E.P 79 x1 0) fun u22 => (k1 (mfieldAddr E.P 23 u22 0) fun u23 => (k1 (xload E.P m 3 u23) fun u24 => (k1 (mbin E .sub 3 u24 (.int .i64 1)) fun u25 => (k1 (mbin E .sub 3 u25 x21) fun u26 => (kc (call base 83 [u20, u21, u26] m) (fun u27 m => (kr (mrange call base u27 968610 { n := 46, l := [(4, x4), (7, u19)] } m) (fun m => (k1 (xload E.P m 76 u19) fun u30 => (ks (xstore E.P base m 76 x5 u30) fun m => (k1 (mbin E .add 3 x21 (.int .i64 1)) fun u31 => (ih x1 x3 x4 x5 x19 x20 u31 m))))) (fun _ => none) (kxs [(2, fun m => (k1 (xload E.P m 76 u19) fun u28 => (ks (xstore E.P base m 76 x5 u28) fun m => (k1 (mbin E .add 3 x21 (.int .i64 1)) fun u29 => (ih x1 x3 x4 x5 x19 x20 u29 m)))))]))) (fun v m => kp v m))))))))))))) (kx0 x4 m)))) n
noncomputable def r57_Y0 (call : CallF) (fuel base y : Nat) (x4 : Value) (x7 : Value) (x35 : Value) (x36 : Value) (m : M) : Res2 :=
  (k2 (xalloc E.P m 76) fun u34 m => (ks (xstore E.P base m 76 u34 x35) fun m => (ks (mbusy m y) fun m => (k1 (xload E.P m 76 u34) fun u35 => (k1 (xload E.P m 76 x7) fun u36 => (k1 (mbin E .eql 76 u35 u36) fun u37 => (kb u37 (mfin m y (some (some (.exit 2)))) (k1 (xload E.P m 3 x4) fun u38 => (k1 (mbin E .add 3 u38 x36) fun u39 => (ks (xstore E.P base m 3 x4 u39) fun m => (mfin m y (some none))))))))))))
noncomputable def r57 (call : CallF) (fuel base : Nat) (x0 : Value) (m : M) : Res2 :=
  (k2 (xbox m x0) fun u1 m => (k1 (mfieldAddr E.P 79 u1 0) fun u2 => (k1 (xload E.P m 23 u2) fun u3 => (kc (call base 81 [u3] m) (fun u4 m => (k2 (xalloc E.P m 106) fun u5 m => (ks (xstore E.P base m 106 u5 u4) fun m => (k1 (xload E.P m 106 u5) fun u6 => (kc (call base 82 [u6] m) (fun u7 m => (k2 (xalloc E.P m 3) fun u8 m => (k2 (xalloc E.P m 76) fun u9 m => (ks (xstore E.P base m 3 u8 (.int .i64 0)) fun m => (ks (xstore E.P base m 76 u9 u7) fun m => (k1 (mfieldAddr E.P 79 u1 1) fun u10 => (k1 (mfieldAddr E.P 79 u1 0) fun u11 => (k1 (mfieldAddr E.P 23 u11 0) fun u12 => (k1 (xload E.P m 3 u12) fun u13 => (k1 (mslice E.P m 77 u10 none (some u13) none) fun u14 => (k2 (vcall E.P base m .len [104] [u14]) fun u15 m => (r57_L0 call fuel base (fun v m => some (.pan v, m)) (fun w32 m => (k1 (xload E.P m 3 w32) fun u33 => (fVal u33 fun v => some (.ret v, m)))) fuel u1 u5 u8 u9 u14 u15 (.int .i64 0) m)))))))))))) (fun v m => some (.pan v, m))))))) (fun v m => some (.pan v, m))))))
def keep57 : Keep := { region := fun i => ([[1], [1, 3], [1, 3, 4, 5], [1, 3, 4, 5, 19, 20, 21], [1, 3, 4, 5, 19, 20, 21, 22], [1, 3, 4, 5, 6, 7, 19, 20, 21], [1, 3, 4, 5, 7, 19, 20, 21, 34], [4, 7, 8, 36], [4, 7, 8, 9], [4, 9, 39], [], [1, 3, 4, 5, 19, 20, 21], [1, 3, 4, 5, 19, 20, 21], [2]] : List (List Nat))[i]?, exit := fun i => ([[4], [1, 3, 4, 5, 19, 20, 21], [1, 3, 4, 5, 7, 19, 20, 21], []] : List (List Nat))[i]?, ret := some [2] }
noncomputable def r57_L0_R (call : CallF) (fuel base n : Nat) (vs : List Value) (m : M) (K : KT) : Res2 := match vs with
  | [x1, x3, x4, x5, x19, x20, x21] => r57_L0 call fuel base (fun v m => K (.pan v) { n := 46, l := [] } m) (fun y4 m => K (.exit 0) { n := 46, l := [(4, y4)] } m) n x1 x3 x4 x5 x19 x20 x21 m
  | _ => none
noncomputable def lp57 (call : CallF) (fuel base : Nat) : Lp := lpsel [(0, fun T m K => kslots 46 [1, 3, 4, 5, 19, 20, 21] T fun vs => r57_L0_R call fuel base fuel vs m K)]
noncomputable def c57 : Code := Try.f57.body.getD .skip
theorem r57_L0_lk (call : CallF) (fuel base : Nat) : LoopsOk E call (lp57 call fuel base) fuel base 0 (loopB (blockB (seqR (seqL (seqR (seqR (seqR c57))))))) = (And True (And (And True True) (And (And True (And (And True True) True)) True))) := by kernel_rfl
theorem r57_L0_ok (call : CallF) (fuel base : Nat) : LpOk E call (lp57 call fuel base) fuel base 0 (loopB (blockB (seqR (seqL (seqR (seqR (seqR c57))))))) := by
  refine loop_ok (kp := keep57) (hb := Eq.mpr (r57_L0_lk call fuel base) (And.intro trivial (And.intro (And.intro trivial trivial) (And.intro (And.intro trivial (And.intro (And.intro trivial trivial) trivial)) trivial)))) 46 [1, 3, 4, 5, 19, 20, 21] (fun n vs m K => r57_L0_R call fuel base n vs m K) ?_ ?_ (fun _ _ _ => rfl)
  · intro vs m K
    unfold r57_L0_R
    split <;> rfl
  · intro n vs m K hl
    match vs, hl with
    | [x1, x3, x4, x5, x19, x20, x21], _ => show _ = _; kernel_rfl
theorem r57_eq (call : CallF) (fuel base : Nat) (x0 : Value) (m : M) : kbody E call keep57 (lp57 call fuel base) base Try.f57 [x0] m = r57 call fuel base x0 m := by
  kernel_rfl
noncomputable def rf57 : RF := fun call fuel base args m => match args with
  | [x0] => r57 call fuel base x0 m
  | _ => none
theorem r57_lk (call : CallF) (fuel base : Nat) : LoopsOk E call (lp57 call fuel base) fuel base 0 c57 = (And True (And True (And True (And (And True (LpOk E call (lp57 call fuel base) fuel base 0 (loopB (blockB (seqR (seqL (seqR (seqR (seqR c57))))))))) (And True True))))) := by kernel_rfl
theorem r57_fn : E.P.funcs[57]? = some Try.f57 := by kernel_rfl
theorem r57_body : Try.f57.body = some c57 := by kernel_rfl
theorem rf57_ok : RFok E 57 rf57 := by
  show RFok' E 57 rf57
  refine ⟨Try.f57, r57_fn, fun call fuel base args m r _ h => ?_⟩
  unfold rf57 at h
  split at h
  · rw [← r57_eq] at h
    exact kbody_sound (c := c57) r57_body (Eq.mpr (r57_lk call fuel base) (And.intro trivial (And.intro trivial (And.intro trivial (And.intro (And.intro trivial (r57_L0_ok call fuel base)) (And.intro trivial trivial)))))) h
  · simp at h
noncomputable def site57_0 : Site := ⟨968610, [35, 36], rangeA (blockB (seqR (seqL (seqR (blockB (seqL (seqR (seqR (loopB (blockB (seqR (seqL (seqR (seqR (seqR c57))))))))))))))), rangeB (blockB (seqR (seqL (seqR (blockB (seqL (seqR (seqR (loopB (blockB (seqR (seqL (seqR (seqR (seqR c57)))))))))))))))⟩
theorem site57_0_g : gsite 968610 = some site57_0 := by kernel_rfl
theorem r57_Y0_eq (call : CallF) (fuel base y : Nat) (x4 : Value) (x7 : Value) (x35 : Value) (x36 : Value) (m : M) : kround E call keep57 (lp57 call fuel base) base y site57_0 { n := 46, l := [(4, x4), (7, x7)] } [x35, x36] m = r57_Y0 call fuel base y x4 x7 x35 x36 m := by
  kernel_rfl
noncomputable def r57_Y0_R (call : CallF) (fuel base y : Nat) (xs vs : List Value) (m : M) : Res2 := match xs, vs with
  | [x4, x7], [x35, x36] => r57_Y0 call fuel base y x4 x7 x35 x36 m
  | _, _ => none
noncomputable def w0 : RYs := fun call fuel base y T vs m => kslots 46 [4, 7] T fun xs => r57_Y0_R call fuel base y xs vs m
theorem r57_Y0_lA (call : CallF) (fuel base : Nat) : LoopsOk E call (lp57 call fuel base) fuel base 0 site57_0.assign = (And True True) := by kernel_rfl
theorem r57_Y0_lB (call : CallF) (fuel base : Nat) : LoopsOk E call (lp57 call fuel base) fuel base 0 site57_0.body = (And (And True (And True True)) True) := by kernel_rfl
theorem y57_0_ok : RYsOk E 968610 w0 := by
  intro call fuel base y T vs m r lr hC hby hm hst hk hT h
  unfold w0 at h
  obtain ⟨xs, hl, hsub, h⟩ := kslots_some h
  unfold r57_Y0_R at h
  split at h
  · rw [← r57_Y0_eq] at h
    exact kround_sound (Eq.mpr (r57_Y0_lA call fuel base) (And.intro trivial trivial)) (Eq.mpr (r57_Y0_lB call fuel base) (And.intro (And.intro trivial (And.intro trivial trivial)) trivial)) hby hm hst (by rw [hk]; exact site57_0_g) rfl (hT ▸ hsub) h
  · simp at h
end Go.AM
namespace Go.AM
open Go Go.Proofs
noncomputable def r63 (call : CallF) (fuel base : Nat) (x0 : Value) (m : M) : Res2 :=
  (k2 (xbox m x0) fun u1 m => (k2 (xalloc E.P m 79) fun u2 m => (k1 (mfieldAddr E.P 79 u1 0) fun u3 => (k1 (xload E.P m 23 u3) fun u4 => (k2 (xalloc E.P m 23) fun u5 m => (ks (xstore E.P base m 23 u5 u4) fun m => (k1 (mfieldAddr E.P 23 u5 1) fun u6 => (k1 (xload E.P m 3 u6) fun u7 => (k1 (mfieldAddr E.P 23 u5 0) fun u8 => (k1 (xload E.P m 3 u8) fun u9 => (k1 (mfieldAddr E.P 23 u5 2) fun u10 => (k1 (xload E.P m 3 u10) fun u11 => (k1 (mbuild E.P 23 [(0, u7), (1, u9), (2, u11)]) fun u12 => (kc (call base 85 [u12, (.func (.func 87) #[] #[u1])] m) (fun u13 m => (ks (xstore E.P base m 79 u2 u13) fun m => (k0 (mload E.P m 79 u2) fun r_14 => (fVal r_14 fun v => some (.ret v, m))))) (fun v m => some (.pan v, m))))))))))))))))
def keep63 : Keep := { region := fun i => ([[1, 2], [1, 2, 3], [2]] : List (List Nat))[i]?, exit := fun i => ([] : List (List Nat))[i]?, ret := some [2] }
noncomputable def lp63 (call : CallF) (fuel base : Nat) : Lp := lpsel []
noncomputable def c63 : Code := Try.f63.body.getD .skip
theorem r63_eq (call : CallF) (fuel base : Nat) (x0 : Value) (m : M) : kbody E call keep63 (lp63 call fuel base) base Try.f63 [x0] m = r63 call fuel base x0 m := by
  kernel_rfl
noncomputable def rf63 : RF := fun call fuel base args m => match args with
  | [x0] => r63 call fuel base x0 m
  | _ => none
theorem r63_lk (call : CallF) (fuel base : Nat) : LoopsOk E call (lp63 call fuel base) fuel base 0 c63 = (And True (And True (And True True))) := by kernel_rfl
theorem r63_fn : E.P.funcs[63]? = some Try.f63 := by kernel_rfl
theorem r63_body : Try.f63.body = some c63 := by kernel_rfl
theorem rf63_ok : RFok E 63 rf63 := by
  show RFok' E 63 rf63
  refine ⟨Try.f63, r63_fn, fun call fuel base args m r _ h => ?_⟩
  unfold rf63 at h
  split at h
  · rw [← r63_eq] at h
    exact kbody_sound (c := c63) r63_body (Eq.mpr (r63_lk call fuel base) (And.intro trivial (And.intro trivial (And.intro trivial trivial)))) h
  · simp at h
end Go.AM
namespace Go.AM
open Go Go.Proofs
noncomputable def r65_L2 (call : CallF) (fuel base : Nat) (kx2 : Value → Value → Value → Value → Value → M → Res2) (n : Nat) : Value → Value → Value → Value → Value → Value → Value → Value → M → Res2 :=
  Nat.rec (motive := fun _ => Value → Value → Value → Value → Value → Value → Value → Value → M → Res2) (fun _ _ _ _ _ _ _ _ _ => none)
    (fun _ ih x1 x4 x5 x6 x11 x12 x17 x18 m =>
      (k1 (mbin E .lss 3 x18 x17) fun u9 => (kb u9 (k1 (mbuild E.P 65 [(0, x18), (1, x6)]) fun u10 => (k2 (xalloc E.P m 65) fun u11 m => (ks (xstore E.P base m 65 u11 u10) fun m => (k1 (mfieldAddr E.P 79 x1 1) fun u12 => (k1 (mindexAddr E.P 77 u12 x6) fun u13 => (k1 (mindexAddr E.P 76 u13 x18) fun u14 => (k1 (xload E.P m 3 u14) fun u15 => (k1 (xload E.P m 79 x1) fun u16 => (kc (kB m (call m.length 80 [u16, x6, x18] m)) (fun u17 m => (k1 (mbin E .lss 3 u15 u17) fun u18 => (kb u18 (k1 (xload E.P m 65 u11) fun u19 => (k2 (xbuildSlice E.P m 44 1 [(0, u19)]) fun u20 m => (k2 (vcall E.P base m .append [44, 44] [x4, u20]) fun u21 m => (k1 (mfieldAddr E.P 79 x1 1) fun u22 => (k1 (mindexAddr E.P 77 u22 x6) fun u23 => (k1 (mindexAddr E.P 76 u23 x18) fun u24 => (k1 (xload E.P m 3 u24) fun u25 => (k1 (xload E.P m 79 x1) fun u26 => (kc (kB m (call m.length 90 [u26, x6, x18] m)) (fun u27 m => (k1 (mbin E .gtr 3 u25 u27) fun u28 => (kb u28 (k1 (xload E.P m 65 u11) fun u29 => (k2 (xbuildSlice E.P m 44 1 [(0, u29)]) fun u30 m => (k2 (vcall E.P base m .append [44, 44] [x5, u30]) fun u31 m => (k1 (mbin E .add 3 x18 (.int .i64 1)) fun u32 => (ih x1 u21 u31 x6 x11 x12 x17 u32 m))))) (k1 (mbin E .add 3 x18 (.int .i64 1)) fun u33 => (ih x1 u21 x5 x6 x11 x12 x17 u33 m))))) (fun _ _ => none)))))))))) (k1 (mfieldAddr E.P 79 x1 1) fun u34 => (k1 (mindexAddr E.P 77 u34 x6) fun u35 => (k1 (mindexAddr E.P 76 u35 x18) fun u36 => (k1 (xload E.P m 3 u36) fun u37 => (k1 (xload E.P m 79 x1) fun u38 => (kc (kB m (call m.length 90 [u38, x6, x18] m)) (fun u39 m => (k1 (mbin E .gtr 3 u37 u39) fun u40 => (kb u40 (k1 (xload E.P m 65 u11) fun u41 => (k2 (xbuildSlice E.P m 44 1 [(0, u41)]) fun u42 m => (k2 (vcall E.P base m .append [44, 44] [x5, u42]) fun u43 m => (k1 (mbin E .add 3 x18 (.int .i64 1)) fun u44 => (ih x1 x4 u43 x6 x11 x12 x17 u44 m))))) (k1 (mbin E .add 3 x18 (.int .i64 1)) fun u45 => (ih x1 x4 x5 x6 x11 x12 x17 u45 m))))) (fun _ _ => none)))))))))) (fun _ _ => none)))))))))) (kx2 x1 x4 x5 x11 x12 m)))) n
noncomputable def r65_L0 (call : CallF) (fuel base : Nat) (kx0 : Value → Value → M → Res2) (n : Nat) : Value → Value → Value → Value → Value → M → Res2 :=
  Nat.rec (motive := fun _ => Value → Value → Value → Value → Value → M → Res2) (fun _ _ _ _ _ _ => none)
    (fun _ ih x1 x4 x5 x11 x12 m =>
      (k1 (mbin E .lss 3 x12 x11) fun u5 => (kb u5 (k1 (mfieldAddr E.P 79 x1 0) fun u6 => (k1 (mfieldAddr E.P 23 u6 1) fun u7 => (k1 (xload E.P m 3 u7) fun u8 => (r65_L2 call fuel base (fun w46 w47 w48 w49 w50 m => (k1 (mbin E .add 3 w50 (.int .i64 1)) fun u51 => (ih w46 w47 w48 w49 u51 m))) fuel x1 x4 x5 x12 x11 x12 u8 (.int .i64 0) m)))) (kx0 x4 x5 m)))) n
noncomputable def r65 (call : CallF) (fuel base : Nat) (x0 : Value) (m : M) : Res2 :=
  (k2 (xbox m x0) fun u1 m => (k1 (mfieldAddr E.P 79 u1 0) fun u2 => (k1 (mfieldAddr E.P 23 u2 0) fun u3 => (k1 (xload E.P m 3 u3) fun u4 => (r65_L0 call fuel base (fun w52 w53 m => (some (.ret (.tuple #[w52, w53]), m))) fuel u1 (.slice none 0 0) (.slice none 0 0) u4 (.int .i64 0) m)))))
def keep65 : Keep := { region := fun i => ([[1], [1, 4, 5], [1, 4, 5, 11, 12], [1, 4, 5, 11, 12, 13], [1, 4, 5, 6, 11, 12], [1, 4, 5, 6, 11, 12, 17, 18], [1, 4, 5, 6, 11, 12, 17, 18, 19], [1, 4, 5, 6, 7, 11, 12, 17, 18], [1, 4, 5, 6, 7, 8, 11, 12, 17, 18], [1, 4, 5, 6, 7, 8, 11, 12, 17, 18, 34], [1, 4, 5, 6, 7, 8, 11, 12, 17, 18], [1, 4, 5, 6, 8, 11, 12, 17, 18, 49], [1, 4, 5, 6, 11, 12, 17, 18], [1, 4, 5, 6, 11, 12, 17, 18], [1, 4, 5, 11, 12], [2, 3]] : List (List Nat))[i]?, exit := fun i => ([[4, 5], [1, 4, 5, 11, 12], [1, 4, 5, 11, 12], [1, 4, 5, 6, 11, 12, 17, 18]] : List (List Nat))[i]?, ret := some [2, 3] }
noncomputable def r65_L2_R (call : CallF) (fuel base n : Nat) (vs : List Value) (m : M) (K : KT) : Res2 := match vs with
  | [x1, x4, x5, x6, x11, x12, x17, x18] => r65_L2 call fuel base (fun y1 y4 y5 y11 y12 m => K (.exit 2) { n := 58, l := [(1, y1), (4, y4), (5, y5), (11, y11), (12, y12)] } m) n x1 x4 x5 x6 x11 x12 x17 x18 m
  | _ => none
noncomputable def r65_L0_R (call : CallF) (fuel base n : Nat) (vs : List Value) (m : M) (K : KT) : Res2 := match vs with
  | [x1, x4, x5, x11, x12] => r65_L0 call fuel base (fun y4 y5 m => K (.exit 0) { n := 58, l := [(4, y4), (5, y5)] } m) n x1 x4 x5 x11 x12 m
  | _ => none
noncomputable def lp65 (call : CallF) (fuel base : Nat) : Lp := lpsel [(2, fun T m K => kslots 58 [1, 4, 5, 6, 11, 12, 17, 18] T fun vs => r65_L2_R call fuel base fuel vs m K), (0, fun T m K => kslots 58 [1, 4, 5, 11, 12] T fun vs => r65_L0_R call fuel base fuel vs m K)]
noncomputable def c65 : Code := Try.f65.body.getD .skip
theorem r65_L2_lk (call : CallF) (fuel base : Nat) : LoopsOk E call (lp65 call fuel base) fuel base 2 (loopB (blockB (seqR (seqR (blockB (seqL (seqR (seqR (loopB (blockB (seqR (seqL (seqR (seqR c65)))))))))))))) = (And True (And (And True True) (And (And True (And True (And (And True (And True True)) (And True (And True True))))) True))) := by kernel_rfl
theorem r65_L2_ok (call : CallF) (fuel base : Nat) : LpOk E call (lp65 call fuel base) fuel base 2 (loopB (blockB (seqR (seqR (blockB (seqL (seqR (seqR (loopB (blockB (seqR (seqL (seqR (seqR c65)))))))))))))) := by
  refine loop_ok (kp := keep65) (hb := Eq.mpr (r65_L2_lk call fuel base) (And.intro trivial (And.intro (And.intro trivial trivial) (And.intro (And.intro trivial (And.intro trivial (And.intro (And.intro trivial (And.intro trivial trivial)) (And.intro trivial (And.intro trivial trivial))))) trivial)))) 58 [1, 4, 5, 6, 11, 12, 17, 18] (fun n vs m K => r65_L2_R call fuel base n vs m K) ?_ ?_ (fun _ _ _ => rfl)
  · intro vs m K
    unfold r65_L2_R
    split <;> rfl
  · intro n vs m K hl
    match vs, hl with
    | [x1, x4, x5, x6, x11, x12, x17, x18], _ => show _ = _; kernel_rfl
theorem r65_L0_lk (call : CallF) (fuel base : Nat) : LoopsOk E call (lp65 call fuel base) fuel base 0 (loopB (blockB (seqR (seqL (seqR (seqR c65)))))) = (And True (And (And True True) (And (And True (And True (LpOk E call (lp65 call fuel base) fuel base 2 (loopB (blockB (seqR (seqR (blockB (seqL (seqR (seqR (loopB (blockB (seqR (seqL (seqR (seqR c65))))))))))))))))) True))) := by kernel_rfl
theorem r65_L0_ok (call : CallF) (fuel base : Nat) : LpOk E call (lp65 call fuel base) fuel base 0 (loopB (blockB (seqR (seqL (seqR (seqR c65)))))) := by
  refine loop_ok (kp := keep65) (hb := Eq.mpr (r65_L0_lk call fuel base) (And.intro trivial (And.intro (And.intro trivial trivial) (And.intro (And.intro trivial (And.intro trivial (r65_L2_ok call fuel base))) trivial)))) 58 [1, 4, 5, 11, 12] (fun n vs m K => r65_L0_R call fuel base n vs m K) ?_ ?_ (fun _ _ _ => rfl)
  · intro vs m K
    unfold r65_L0_R
    split <;> rfl
  · intro n vs m K hl
    match vs, hl with
    | [x1, x4, x5, x11, x12], _ => show _ = _; kernel_rfl
theorem r65_eq (call : CallF) (fuel base : Nat) (x0 : Value) (m : M) : kbody E call keep65 (lp65 call fuel base) base Try.f65 [x0] m = r65 call fuel base x0 m := by
  kernel_rfl
noncomputable def rf65 : RF := fun call fuel base args m => match args with
  | [x0] => r65 call fuel base x0 m
  | _ => none
theorem r65_lk (call : CallF) (fuel base : Nat) : LoopsOk E call (lp65 call fuel base) fuel base 0 c65 = (And True (And True (And (And True (LpOk E call (lp65 call fuel base) fuel base 0 (loopB (blockB (seqR (seqL (seqR (seqR c65)))))))) (And True True)))) := by kernel_rfl
theorem r65_fn : E.P.funcs[65]? = some Try.f65 := by kernel_rfl
theorem r65_body : Try.f65.body = some c65 := by kernel_rfl
theorem rf65_ok : RFok E 65 rf65 := by
  show RFok' E 65 rf65
  refine ⟨Try.f65, r65_fn, fun call fuel base args m r _ h => ?_⟩
  unfold rf65 at h
  split at h
  · rw [← r65_eq] at h
    exact kbody_sound (c := c65) r65_body (Eq.mpr (r65_lk call fuel base) (And.intro trivial (And.intro trivial (And.intro (And.intro trivial (r65_L0_ok call fuel base)) (And.intro trivial trivial))))) h
  · simp at h
end Go.AM
