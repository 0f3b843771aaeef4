import Derived.KernelRfl
import Derived.Laws.BytesArg
import Derived.Laws.StructEq
import Derived.RangeFuncLeaves
import Derived.RangeFuncRecord
import Derived.Test.YtljhnbimlomdlaaGreatProg
import Derived.Test.YtljhnbimlomdlaaGreatRows
import Derived.WalkKit
import Derived.Test.YtljhnbimlomdlaaGreatAmB
import Derived.Test.YtljhnbimlomdlaaGreatAmG
import Derived.Test.YtljhnbimlomdlaaGreatAmModel
import Derived.Test.YtljhnbimlomdlaaGreatAmRel
import Derived.Test.YtljhnbimlomdlaaGreatAmOps6
import Derived.Test.YtljhnbimlomdlaaGreatAmCode
import Derived.Test.YtljhnbimlomdlaaGreatAmDraw5
import Derived.Test.YtljhnbimlomdlaaGreatAmEq
set_option linter.unusedVariables false
set_option linter.unusedSimpArgs false
set_option linter.unusedSectionVars false
namespace Go.AM
open Go Go.Proofs
noncomputable def E : Env where
  P := Tryz.prog
  pure := fun f => [4,5,6,7,8,9,12,15,16,17,18,20,22,24,26,27,28,34,36,37,38,39,40,41,43,44,46,48,50,51,52,56,57,64,65,66,67,68,69,70,71,72,73,74,75,78,79,80,81,82,84,85,86,87,91,92,93,94,104,105,118,143,144].contains f
  eqt := fun t => if t == 68 then [0, 2] else []
  live := fun _ _ => none
def fieldSum (P : Program) (t : TypeId) : List (Nat × Nat × Bool) := (P.fieldsOf t).toList.map fun f => (f.type, f.offset, f.name == "_")
theorem flat_of {P : Program} {t : TypeId} {l : List (Nat × Nat × Bool)} {k : IntKind} (h1 : P.underlying t = some (.struct (P.fieldsOf t))) (h2 : P.stoodInHeld t = false) (h3 : P.eqGuardType P.depth t = false)
    (h3' : P.underlying 3 = some (.int k)) (h4' : P.underlying 4 = some .bool) (h4 : fieldSum P t = l) (h5 : ∀ q ∈ l, (q.1 = 3 ∨ q.1 = 4) ∧ q.2.2 = false) : flatFields P t (l.map fun q => 2 * q.2.1 + (if q.1 = 4 then 1 else 0)) := by
  have b3 : isBoolT P 3 = 0 := by unfold isBoolT; rw [h3']
  have b4 : isBoolT P 4 = 1 := by unfold isBoolT; rw [h4']
  have hq : ∀ f ∈ (P.fieldsOf t).toList, ((f.type = 3 ∨ f.type = 4) ∧ (f.name == "_") = false) := fun f hf =>
    h5 (f.type, f.offset, f.name == "_") (by rw [← h4]; exact List.mem_map.2 ⟨f, hf, rfl⟩)
  refine ⟨⟨h1, h2, h3⟩, ?_, fun f hf => ?_⟩
  · rw [← h4]
    unfold fieldSum
    rw [List.map_map]
    refine List.map_congr_left fun f hf => ?_
    rcases (hq f hf).1 with e | e
    · simp [e, b3]
    · simp [e, b4]
  · obtain ⟨e1, e2⟩ := hq f hf
    simp only [beq_eq_false_iff_ne] at e2
    refine ⟨?_, e2⟩
    rcases e1 with e | e
    · exact .inl ⟨⟨k, by rw [e]; exact h3'⟩, by rw [e]; exact b3⟩
    · exact .inr ⟨by rw [e]; exact h4', by rw [e]; exact b4⟩
theorem u3 : Tryz.prog.underlying 3 = some (.int .i64) := by kernel_rfl
theorem u4 : Tryz.prog.underlying 4 = some .bool := by kernel_rfl
theorem fl68 : flatFields Tryz.prog 68 [0, 2] := flat_of (l := [(3,0,false),(3,1,false)]) (by kernel_rfl) (by kernel_rfl) (by kernel_rfl) u3 u4 (by kernel_rfl) (by simp)
theorem nogAll : (Tryz.prog.funcs.toList.all fun fn => !(fn.body.isSome && fn.name == "runtime.NumGoroutine")) = true := by kernel_rfl
theorem keysNodup : (siteTab.map (·.key)).Nodup := by
  have h : siteTab.map (·.key) = [] := by kernel_rfl
  rw [h]; exact List.nodup_nil
theorem sitesAll : (Tryz.prog.funcs.toList.zipIdx.all fun p => siteFns.contains p.2 || ((p.1.body.map fun c => (sitesOf c).isEmpty).getD true)) = true := by kernel_rfl
theorem site_of {f : Nat} (hf : f ∈ siteFns) {s : Site} (hs : s ∈ sitesOf (fcode f)) : gsite s.key = some s :=
  findSite_of keysNodup (List.mem_flatMap.2 ⟨f, hf, hs⟩)
/-- Is a function a type's own method, of its values as they are? -/
def isPtrT (P : Program) (t : TypeId) : Option Bool := match P.underlying t with
  | some (.pointer _) => some true
  | some _ => some false
  | none => none
def methB (P : Program) (t : TypeId) (name : String) (f : FuncId) : Bool := match P.info? t with
  | some i => match i.methods.find? (·.name == name) with
    | some m => m.path.toList.isEmpty && (match m.func with
      | some (g, p) => g == f && (isPtrT P t == some p)
      | none => false)
    | none => false
  | none => false
theorem methB_run {P : Program} {t : TypeId} {name : String} {f : FuncId} (h : methB P t name f = true) (w : World) (v : Value) (n : Nat) : (method (n + 1) t v name).run P w = .ok (f, v) w := by
  unfold methB at h
  split at h
  · rename_i i hi
    split at h
    · rename_i mm hm
      have e1 : (typeInfo t).run P w = .ok i w := by simp [typeInfo, hi]
      unfold method
      rw [Sem.run_bind, e1]
      simp only [Result.andThen_ok, hm]
      rw [Bool.and_eq_true] at h
      obtain ⟨hp, h⟩ := h
      rw [List.isEmpty_iff] at hp
      split at h
      · rename_i g p hf
        simp only [Bool.and_eq_true, beq_iff_eq] at h
        obtain ⟨rfl, h⟩ := h
        rw [hp]
        simp only [follow, Sem.run_bind, Sem.run_pure, Result.andThen_ok, hf]
        unfold isPtrT at h
        split at h
        · rename_i el hu
          simp only [Option.some.injEq] at h
          subst h
          simp [receiverAt, run_underlying hu, Place.get]
        · rename_i d hd hu
          simp only [Option.some.injEq] at h
          subst h
          simp only [receiverAt, Sem.run_bind, run_underlying hu, Result.andThen_ok]
          simp [Place.get]
        · simp at h
      · simp at h
    · simp at h
  · simp at h
theorem gmethsAll : (gmeths.all fun p => match gnames[p.2.1]? with
  | some nm => methB Tryz.prog p.1 nm p.2.2
  | none => false) = true := by kernel_rfl
theorem mlook_mem {l : List (TypeId × Nat × FuncId)} {t n f : Nat} (h : mlook l t n = some f) : (t, n, f) ∈ l := by
  induction l with
  | nil => simp [mlook] at h
  | cons p l ih =>
    obtain ⟨a, b, g⟩ := p
    simp only [mlook] at h
    split at h
    · rename_i h1
      split at h
      · rename_i h2
        have e1 := Nat.eq_of_beq_eq_true h1
        have e2 := Nat.eq_of_beq_eq_true h2
        simp only [Option.some.injEq] at h
        subst h; subst e1; subst e2; simp
      · exact List.mem_cons_of_mem _ (ih h)
    · exact List.mem_cons_of_mem _ (ih h)
theorem sfindi_get : ∀ {l : List String} {n : Nat} {s nm : String} {k : Nat}, n + l.length ≤ 1000000 → sfindi l n s = n + k → l[k]? = some nm → nm = s
  | [], n, s, nm, k, _, _, h2 => by simp at h2
  | a :: l, n, s, nm, k, hl, h1, h2 => by
    unfold sfindi at h1
    by_cases e : a = s
    · rw [if_pos e] at h1
      have : k = 0 := by omega
      subst this
      simp at h2
      exact h2.symm.trans e
    · rw [if_neg e] at h1
      cases k with
      | zero =>
        exfalso
        have key : ∀ (l : List String) (q : Nat), q + l.length ≤ 1000000 → n < q → sfindi l q s ≠ n := by
          intro l
          induction l with
          | nil => intro q hq hn he; unfold sfindi at he; simp at hq; omega
          | cons b l ih =>
            intro q hq hn he
            unfold sfindi at he
            split at he
            · omega
            · exact ih (q + 1) (by simp at hq; omega) (by omega) he
        exact key l (n + 1) (by simp at hl; omega) (by omega) (by simpa using h1)
      | succ k => exact sfindi_get (l := l) (n := n + 1) (k := k) (by simp at hl; omega) (by rw [h1]; omega) (by simpa using h2)
theorem E_good : E.Good where
  meth := by
    intro t name f h w v n
    have h1 := List.all_eq_true.1 gmethsAll _ (mlook_mem h)
    simp only at h1
    split at h1
    · rename_i nm hnm
      have e : nm = name := sfindi_get (l := gnames) (n := 0) (by decide) (by unfold gname; exact (Nat.zero_add _).symm) hnm
      subst e
      exact methB_run h1 w v n
    · simp at h1
  eqt := by
    intro t xs ys r w x y hne hc
    have ht : t = 68 := by
      unfold E at hne
      simp only [beq_iff_eq] at hne
      by_cases h1 : t = 68
      · exact h1
      simp [h1] at hne
    subst ht
    exact eqt_flat fl68 w x y hc
  nog := by
    intro f fn hf hb
    have h := List.all_eq_true.1 nogAll fn (Array.mem_toList_iff.2 (Array.mem_of_getElem? hf))
    simpa [hb] using h
  sites := by
    intro f fn c hf hc s hs
    have h := List.all_eq_true.1 sitesAll (fn, f) (by rw [List.mem_zipIdx_iff_getElem?]; have hf' : Tryz.prog.funcs[f]? = some fn := hf; simpa using hf')
    simp only [Bool.or_eq_true] at h
    rcases h with h | h
    · refine site_of (f := f) (by simpa using h) ?_
      have e : fcode f = c := by
        show (((E.P.funcs[f]?).bind (·.body)).getD .skip) = c
        rw [hf]
        simp [hc]
      rw [e]; exact hs
    · rw [hc] at h
      simp only [Option.map_some, Option.getD_some, List.isEmpty_iff] at h
      rw [h] at hs
      simp at hs
  tab := by
    intro k s hs
    obtain ⟨hm, _⟩ := findSite_mem hs
    obtain ⟨f, hf, hm⟩ := List.mem_flatMap.1 hm
    have := sitesOf_sub hm
    exact ⟨fun t ht => site_of hf (this.1 t ht), fun t ht => site_of hf (this.2 t ht)⟩
theorem E_mix : E.P.follows .mixedOrders = true := by kernel_rfl
end Go.AM
namespace Go.AM
open Go Go.Proofs
noncomputable def r3 (call : CallF) (fuel base : Nat) (x0 : Value) (x1 : Value) (x2 : Value) (m : M) : Res2 :=
  (k2 (xbox m x2) fun v5_1 m => (kc (call base 4 [x0, x1] m) (fun v13_2 m => (k1 (mun .not v13_2) fun v14_3 => (kb v14_3 (kc (call base 5 [] m) (fun v21_4 m => (fVal v21_4 fun v => some (.ret v, m))) (fun v m => some (.pan v, m))) (k1 (mfieldAddr E.P 26 v5_1 0) fun v16_5 => (k1 (xload E.P m 24 v16_5) fun v17_6 => (k2 (vcall E.P base m .len [24] [v17_6]) fun v18_7 m => (k1 (mbin E .gtr 3 v18_7 (.int .i64 40)) fun v19_8 => (kb v19_8 (kc (call base 5 [] m) (fun v21_9 m => (fVal v21_9 fun v => some (.ret v, m))) (fun v m => some (.pan v, m))) (k1 (xload E.P m 26 v5_1) fun v25_10 => (kc (call base 6 [x0, x1, v25_10] m) (fun v26_11 m => (k1 (mextract 0 v26_11) fun v27_12 => (k1 (mextract 1 v26_11) fun v28_13 => (k1 (xload E.P m 26 v5_1) fun v32_14 => (kc (call base 7 [x0, x1, v32_14] m) (fun v33_15 m => (k1 (mextract 0 v33_15) fun v34_16 => (k1 (mextract 1 v33_15) fun v35_17 => (k1 (mbin E .neq 4 v27_12 v34_16) fun v38_18 => (kb v38_18 (fVal (.bool false) fun v => some (.ret v, m)) (k1 (mbin E .neq 29 v28_13 v35_17) fun v42_19 => (kb v42_19 (fVal (.bool false) fun v => some (.ret v, m)) (k1 (xload E.P m 26 v5_1) fun v47_20 => (kc (call base 8 [x0, x1, v47_20] m) (fun v48_21 m => (k1 (mextract 0 v48_21) fun v49_22 => (k1 (mextract 1 v48_21) fun v50_23 => (k1 (xload E.P m 26 v5_1) fun v54_24 => (kc (call base 9 [x0, x1, v54_24] m) (fun v55_25 m => (k1 (mextract 0 v55_25) fun v56_26 => (k1 (mextract 1 v55_25) fun v57_27 => (k1 (mbin E .eql 4 v49_22 v56_26) fun v60_28 => (kb v60_28 (k1 (mbin E .eql 29 v50_23 v57_27) fun v64_29 => (kb v64_29 (kc (call base 5 [] m) (fun v67_30 m => (fVal v67_30 fun v => some (.ret v, m))) (fun v m => some (.pan v, m))) (fVal (.bool false) fun v => some (.ret v, m)))) (fVal (.bool false) fun v => some (.ret v, m))))))) (fun v m => some (.pan v, m))))))) (fun v m => some (.pan v, m))))))))))) (fun v m => some (.pan v, m))))))) (fun v m => some (.pan v, m)))))))))))) (fun v m => some (.pan v, m))))
def keep3 : Keep := { region := fun i => ([[0, 1, 5], [0, 1, 5, 20], [6], [0, 1, 5, 7, 8], [0, 1, 5, 7, 8, 9, 10], [0, 1, 5, 43], [6], [0, 1, 5, 7, 8], [7, 8, 9, 10], [6]] : List (List Nat))[i]?, exit := fun i => ([] : List (List Nat))[i]?, ret := some [6] }
noncomputable def lp3 (call : CallF) (fuel base : Nat) : Lp := lpsel []
noncomputable def c3 : Code := Tryz.f3.body.getD .skip
theorem r3_eq (call : CallF) (fuel base : Nat) (x0 : Value) (x1 : Value) (x2 : Value) (m : M) : kbody E call keep3 (lp3 call fuel base) base Tryz.f3 [x0, x1, x2] m = r3 call fuel base x0 x1 x2 m := by
  kernel_rfl
noncomputable def rf3 : RF := fun call fuel base args m => match args with
  | [x0, x1, x2] => r3 call fuel base x0 x1 x2 m
  | _ => none
theorem r3_lk (call : CallF) (fuel base : Nat) : LoopsOk E call (lp3 call fuel base) fuel base 0 c3 = (And True (And (And True (And (And True True) True)) (And True (And True (And (And True (And (And True True) True)) (And True (And True (And True True)))))))) := by kernel_rfl
theorem r3_fn : E.P.funcs[3]? = some Tryz.f3 := by kernel_rfl
theorem r3_body : Tryz.f3.body = some c3 := by kernel_rfl
theorem rf3_ok : RFok E 3 rf3 := by
  show RFok' E 3 rf3
  refine ⟨Tryz.f3, r3_fn, fun call fuel base args m r _ h => ?_⟩
  unfold rf3 at h
  split at h
  · rw [← r3_eq] at h
    exact kbody_sound (c := c3) r3_body (Eq.mpr (r3_lk call fuel base) (And.intro trivial (And.intro (And.intro trivial (And.intro (And.intro trivial trivial) trivial)) (And.intro trivial (And.intro trivial (And.intro (And.intro trivial (And.intro (And.intro trivial trivial) trivial)) (And.intro trivial (And.intro trivial (And.intro trivial trivial))))))))) h
  · simp at h
end Go.AM
namespace Go.AM
open Go Go.Proofs
noncomputable def r4_L0 (call : CallF) (fuel base : Nat) (kr : Value → M → Res2) (kx0 : Value → M → Res2) (n : Nat) : Value → Value → Value → M → Res2 :=
  Nat.rec (motive := fun _ => Value → Value → Value → M → Res2) (fun _ _ _ _ => none)
    (fun _ ih x0 x1 x5 m =>
      (k2 (vcall E.P base m .len [22] [x0]) fun v9_1 m => (k1 (mbin E .lss 3 x5 v9_1) fun v10_2 => (kb v10_2 (k1 (mbin E .geq 3 x5 (.int .i64 20)) fun v14_3 => (kb v14_3 (kr (.bool false) m) (k1 (mindexAddr E.P 22 x0 x5) fun v18_4 => (k1 (xload E.P m 9 v18_4) fun v19_5 => (k2 (vcall E.P base m .len [9] [v19_5]) fun v20_6 m => (k1 (mbin E .gtr 3 v20_6 (.int .i64 20)) fun v21_7 => (kb v21_7 (kr (.bool false) m) (k1 (mbin E .add 3 x5 (.int .i64 1)) fun v12_8 => (ih x0 x1 v12_8 m))))))))) (kx0 x1 m))))) n
noncomputable def r4_L2 (call : CallF) (fuel base : Nat) (kr : Value → M → Res2) (kx2 : M → Res2) (n : Nat) : Value → Value → M → Res2 :=
  Nat.rec (motive := fun _ => Value → Value → M → Res2) (fun _ _ _ => none)
    (fun _ ih x1 x6 m =>
      (k2 (vcall E.P base m .len [23] [x1]) fun v25_11 m => (k1 (mbin E .lss 3 x6 v25_11) fun v26_12 => (kb v26_12 (k1 (mbin E .geq 3 x6 (.int .i64 20)) fun v30_13 => (kb v30_13 (kr (.bool false) m) (k1 (mindexAddr E.P 23 x1 x6) fun v34_14 => (k1 (xload E.P m 34 v34_14) fun v35_15 => (k2 (vcall E.P base m .len [34] [v35_15]) fun v36_16 m => (k1 (mbin E .gtr 3 v36_16 (.int .i64 20)) fun v37_17 => (kb v37_17 (kr (.bool false) m) (k1 (mbin E .add 3 x6 (.int .i64 1)) fun v28_18 => (ih x1 v28_18 m))))))))) (kx2 m))))) n
noncomputable def r4 (call : CallF) (fuel base : Nat) (x0 : Value) (x1 : Value) (m : M) : Res2 :=
  (r4_L0 call fuel base (fun y4_9 m => (fVal y4_9 fun v => some (.ret v, m))) (fun y1_10 m => (r4_L2 call fuel base (fun y4_19 m => (fVal y4_19 fun v => some (.ret v, m))) (fun m => (fVal (.bool true) fun v => some (.ret v, m))) fuel y1_10 (.int .i64 0) m)) fuel x0 x1 (.int .i64 0) m)
def keep4 : Keep := { region := fun i => ([[0, 1], [0, 1, 5], [0, 1, 5, 10], [0, 1, 5], [0, 1, 5, 22], [4], [1, 6], [1, 6, 26], [1, 6], [1, 6, 38], [4], [4]] : List (List Nat))[i]?, exit := fun i => ([[1], [0, 1, 5], [], [1, 6]] : List (List Nat))[i]?, ret := some [4] }
noncomputable def r4_L0_R (call : CallF) (fuel base n : Nat) (vs : List Value) (m : M) (K : KT) : Res2 := match vs with
  | [x0, x1, x5] => r4_L0 call fuel base (fun y4 m => K .ret { n := 39, l := [(4, y4)] } m) (fun y1 m => K (.exit 0) { n := 39, l := [(1, y1)] } m) n x0 x1 x5 m
  | _ => none
noncomputable def r4_L2_R (call : CallF) (fuel base n : Nat) (vs : List Value) (m : M) (K : KT) : Res2 := match vs with
  | [x1, x6] => r4_L2 call fuel base (fun y4 m => K .ret { n := 39, l := [(4, y4)] } m) (fun m => K (.exit 2) { n := 39, l := [] } m) n x1 x6 m
  | _ => none
noncomputable def lp4 (call : CallF) (fuel base : Nat) : Lp := lpsel [(0, fun T m K => kslots 39 [0, 1, 5] T fun vs => r4_L0_R call fuel base fuel vs m K), (2, fun T m K => kslots 39 [1, 6] T fun vs => r4_L2_R call fuel base fuel vs m K)]
noncomputable def c4 : Code := Tryz.f4.body.getD .skip
theorem r4_L0_lk (call : CallF) (fuel base : Nat) : LoopsOk E call (lp4 call fuel base) fuel base 0 (loopB (blockB (seqR (seqL (seqR c4))))) = (And (And True (And True True)) (And (And True (And (And True True) True)) True)) := by kernel_rfl
theorem r4_L0_ok (call : CallF) (fuel base : Nat) : LpOk E call (lp4 call fuel base) fuel base 0 (loopB (blockB (seqR (seqL (seqR c4))))) := by
  refine loop_ok (kp := keep4) (hb := Eq.mpr (r4_L0_lk call fuel base) (And.intro (And.intro trivial (And.intro trivial trivial)) (And.intro (And.intro trivial (And.intro (And.intro trivial trivial) trivial)) trivial))) 39 [0, 1, 5] (fun n vs m K => r4_L0_R call fuel base n vs m K) ?_ ?_ (fun _ _ _ => rfl)
  · intro vs m K
    unfold r4_L0_R
    split <;> rfl
  · intro n vs m K hl
    match vs, hl with
    | [x0, x1, x5], _ => show _ = _; kernel_rfl
theorem r4_L2_lk (call : CallF) (fuel base : Nat) : LoopsOk E call (lp4 call fuel base) fuel base 2 (loopB (blockB (seqR (seqL (seqR (seqR c4)))))) = (And (And True (And True True)) (And (And True (And (And True True) True)) True)) := by kernel_rfl
theorem r4_L2_ok (call : CallF) (fuel base : Nat) : LpOk E call (lp4 call fuel base) fuel base 2 (loopB (blockB (seqR (seqL (seqR (seqR c4)))))) := by
  refine loop_ok (kp := keep4) (hb := Eq.mpr (r4_L2_lk call fuel base) (And.intro (And.intro trivial (And.intro trivial trivial)) (And.intro (And.intro trivial (And.intro (And.intro trivial trivial) trivial)) trivial))) 39 [1, 6] (fun n vs m K => r4_L2_R call fuel base n vs m K) ?_ ?_ (fun _ _ _ => rfl)
  · intro vs m K
    unfold r4_L2_R
    split <;> rfl
  · intro n vs m K hl
    match vs, hl with
    | [x1, x6], _ => show _ = _; kernel_rfl
theorem r4_eq (call : CallF) (fuel base : Nat) (x0 : Value) (x1 : Value) (m : M) : kbody E call keep4 (lp4 call fuel base) base Tryz.f4 [x0, x1] m = r4 call fuel base x0 x1 m := by
  kernel_rfl
noncomputable def rf4 : RF := fun call fuel base args m => match args with
  | [x0, x1] => r4 call fuel base x0 x1 m
  | _ => none
theorem r4_lk (call : CallF) (fuel base : Nat) : LoopsOk E call (lp4 call fuel base) fuel base 0 c4 = (And True (And (And True (LpOk E call (lp4 call fuel base) fuel base 0 (loopB (blockB (seqR (seqL (seqR c4))))))) (And (And True (LpOk E call (lp4 call fuel base) fuel base 2 (loopB (blockB (seqR (seqL (seqR (seqR c4)))))))) (And True True)))) := by kernel_rfl
theorem r4_fn : E.P.funcs[4]? = some Tryz.f4 := by kernel_rfl
theorem r4_body : Tryz.f4.body = some c4 := by kernel_rfl
theorem rf4_ok : RFok E 4 rf4 := by
  show RFok' E 4 rf4
  refine ⟨Tryz.f4, r4_fn, fun call fuel base args m r _ h => ?_⟩
  unfold rf4 at h
  split at h
  · rw [← r4_eq] at h
    exact kbody_sound (c := c4) r4_body (Eq.mpr (r4_lk call fuel base) (And.intro trivial (And.intro (And.intro trivial (r4_L0_ok call fuel base)) (And.intro (And.intro trivial (r4_L2_ok call fuel base)) (And.intro trivial trivial))))) h
  · simp at h
end Go.AM
namespace Go.AM
open Go Go.Proofs
noncomputable def r5 (call : CallF) (fuel base : Nat) (m : M) : Res2 :=
  (k2 (xbuildSlice E.P m 22 2 [(0, (.string (ByteArray.mk #[35, 35]))), (1, (.string (ByteArray.mk #[35, 35])))]) fun v10_1 m => (kc (call base 11 [] m) (fun v12_2 m => (kc (call base 10 [v12_2] m) (fun v13_3 m => (k1 (mextract 0 v13_3) fun v14_4 => (k1 (mextract 1 v13_3) fun v15_5 => (kc (call base 12 [v10_1, v14_4] m) (fun v19_6 m => (k1 (mextract 0 v19_6) fun v20_7 => (k1 (mextract 1 v19_6) fun v21_8 => (kc (call base 13 [v10_1, v14_4] m) (fun v25_9 m => (k1 (mextract 0 v25_9) fun v26_10 => (k1 (mextract 1 v25_9) fun v27_11 => (k2 (xalloc E.P m 26) fun v6_12 m => (ks (xstore E.P base m 26 v6_12 v26_10) fun m => (k1 (xload E.P m 26 v6_12) fun v31_13 => (kc (call base 6 [v10_1, v14_4, v31_13] m) (fun v32_14 m => (k1 (mextract 0 v32_14) fun v33_15 => (k1 (mextract 1 v32_14) fun v34_16 => (k1 (mbin E .eql 29 v15_5 (.int .i64 0)) fun v36_17 => (kb v36_17 (k2 (vcall E.P base m .len [23] [v14_4]) fun v39_18 m => (k1 (mbin E .eql 3 v39_18 (.int .i64 4)) fun v40_19 => (kb v40_19 (k1 (mbin E .eql 29 v21_8 (.int .i64 10)) fun v44_20 => (kb v44_20 (k1 (mbin E .eql 29 v27_11 (.int .i64 0)) fun v48_21 => (kb v48_21 (k1 (mbin E .eql 29 v34_16 (.int .i64 0)) fun v52_22 => (kb v52_22 (fVal v33_15 fun v => some (.ret v, m)) (fVal (.bool false) fun v => some (.ret v, m)))) (fVal (.bool false) fun v => some (.ret v, m)))) (fVal (.bool false) fun v => some (.ret v, m)))) (fVal (.bool false) fun v => some (.ret v, m))))) (fVal (.bool false) fun v => some (.ret v, m))))))) (fun v m => some (.pan v, m))))))))) (fun v m => some (.pan v, m)))))) (fun v m => some (.pan v, m)))))) (fun v m => some (.pan v, m)))) (fun v m => some (.pan v, m))))
def keep5 : Keep := { region := fun i => ([[], [1], [1, 2, 3], [1, 2, 3, 5], [1, 2, 3, 5, 6, 7], [2, 3, 5, 7, 8, 9], [0]] : List (List Nat))[i]?, exit := fun i => ([] : List (List Nat))[i]?, ret := some [0] }
noncomputable def lp5 (call : CallF) (fuel base : Nat) : Lp := lpsel []
noncomputable def c5 : Code := Tryz.f5.body.getD .skip
theorem r5_eq (call : CallF) (fuel base : Nat) (m : M) : kbody E call keep5 (lp5 call fuel base) base Tryz.f5 [] m = r5 call fuel base  m := by
  kernel_rfl
noncomputable def rf5 : RF := fun call fuel base args m => match args with
  | [] => r5 call fuel base  m
  | _ => none
theorem r5_lk (call : CallF) (fuel base : Nat) : LoopsOk E call (lp5 call fuel base) fuel base 0 c5 = (And True (And True (And True (And True (And True (And True (And True True))))))) := by kernel_rfl
theorem r5_fn : E.P.funcs[5]? = some Tryz.f5 := by kernel_rfl
theorem r5_body : Tryz.f5.body = some c5 := by kernel_rfl
theorem rf5_ok : RFok E 5 rf5 := by
  show RFok' E 5 rf5
  refine ⟨Tryz.f5, r5_fn, fun call fuel base args m r _ h => ?_⟩
  unfold rf5 at h
  split at h
  · rw [← r5_eq] at h
    exact kbody_sound (c := c5) r5_body (Eq.mpr (r5_lk call fuel base) (And.intro trivial (And.intro trivial (And.intro trivial (And.intro trivial (And.intro trivial (And.intro trivial (And.intro trivial trivial)))))))) h
  · simp at h
end Go.AM
namespace Go.AM
open Go Go.Proofs
noncomputable def r6 (call : CallF) (fuel base : Nat) (x0 : Value) (x1 : Value) (x2 : Value) (m : M) : Res2 :=
  (k2 (xbox m x2) fun v5_1 m => (kc (call base 14 [x0, x1] m) (fun v15_2 m => (k1 (mextract 0 v15_2) fun v16_3 => (k1 (mextract 1 v15_2) fun v17_4 => (k2 (xalloc E.P m 47) fun v8_5 m => (ks (xstore E.P base m 47 v8_5 v16_3) fun m => (k1 (mun .not v17_4) fun v19_6 => (kb v19_6 (some (.ret (.tuple #[(.bool false), (.int .i64 2)]), m)) (k2 (xalloc E.P m 51) fun v10_7 m => (ks (xstore E.P base m 51 v10_7 (.func (.func 15) #[] #[v5_1])) fun m => (k1 (xload E.P m 47 v8_5) fun v22_8 => (k1 (xload E.P m 26 v5_1) fun v23_9 => (kc (kB m (call m.length 17 [v22_8, v23_9] m)) (fun v24_10 m => (kb v24_10 (k1 (mfieldAddr E.P 47 v8_5 0) fun v26_11 => (k1 (xload E.P m 44 v26_11) fun v27_12 => (k1 (xload E.P m 26 v5_1) fun v28_13 => (kc (kB m (call m.length 19 [v28_13] m)) (fun v29_14 m => (k1 (xload E.P m 51 v10_7) fun v30_15 => (kc (kB m (call m.length 18 [v27_12, v29_14, v30_15, (.func (.func 16) #[] #[v10_7])] m)) (fun v32_16 m => (some (.ret (.tuple #[v32_16, (.int .i64 0)]), m))) (fun _ _ => none)))) (fun _ _ => none))))) (some (.ret (.tuple #[(.bool false), (.int .i64 0)]), m)))) (fun _ _ => none))))))))))))) (fun v m => some (.pan v, m))))
def keep6 : Keep := { region := fun i => ([[0, 1, 5], [5, 8, 9], [5, 8, 19], [6, 7], [5, 8, 10], [5, 8, 10, 11], [6, 7]] : List (List Nat))[i]?, exit := fun i => ([] : List (List Nat))[i]?, ret := some [6, 7] }
noncomputable def lp6 (call : CallF) (fuel base : Nat) : Lp := lpsel []
noncomputable def c6 : Code := Tryz.f6.body.getD .skip
theorem r6_eq (call : CallF) (fuel base : Nat) (x0 : Value) (x1 : Value) (x2 : Value) (m : M) : kbody E call keep6 (lp6 call fuel base) base Tryz.f6 [x0, x1, x2] m = r6 call fuel base x0 x1 x2 m := by
  kernel_rfl
noncomputable def rf6 : RF := fun call fuel base args m => match args with
  | [x0, x1, x2] => r6 call fuel base x0 x1 x2 m
  | _ => none
theorem r6_lk (call : CallF) (fuel base : Nat) : LoopsOk E call (lp6 call fuel base) fuel base 0 c6 = (And True (And True (And (And True (And (And True True) True)) (And True (And True (And True True)))))) := by kernel_rfl
theorem r6_fn : E.P.funcs[6]? = some Tryz.f6 := by kernel_rfl
theorem r6_body : Tryz.f6.body = some c6 := by kernel_rfl
theorem rf6_ok : RFok E 6 rf6 := by
  show RFok' E 6 rf6
  refine ⟨Tryz.f6, r6_fn, fun call fuel base args m r _ h => ?_⟩
  unfold rf6 at h
  split at h
  · rw [← r6_eq] at h
    exact kbody_sound (c := c6) r6_body (Eq.mpr (r6_lk call fuel base) (And.intro trivial (And.intro trivial (And.intro (And.intro trivial (And.intro (And.intro trivial trivial) trivial)) (And.intro trivial (And.intro trivial (And.intro trivial trivial))))))) h
  · simp at h
end Go.AM
namespace Go.AM
open Go Go.Proofs
noncomputable def r7_L0 (call : CallF) (fuel base : Nat) (kr : Value → Value → M → Res2) (kx0 : Value → Value → M → Res2) (n : Nat) : Value → Value → Value → Value → Value → M → Res2 :=
  Nat.rec (motive := fun _ => Value → Value → Value → Value → Value → M → Res2) (fun _ _ _ _ _ _ => none)
    (fun _ ih x1 x5 x9 x10 x11 m =>
      (k2 (vcall E.P base m .len [45] [x10]) fun v29_9 m => (k1 (mbin E .lss 3 x11 v29_9) fun v30_10 => (kb v30_10 (k1 (mfieldAddr E.P 26 x5 0) fun v34_11 => (k1 (xload E.P m 24 v34_11) fun v35_12 => (k1 (mindexAddr E.P 45 x10 x11) fun v39_13 => (k1 (xload E.P m 64 v39_13) fun v40_14 => (kc (kB m (call m.length 25 [x1, v40_14] m)) (fun v41_15 m => (kc (kB m (call m.length 24 [x9, v35_12, v41_15] m)) (fun v42_16 m => (k1 (mfieldAddr E.P 26 x5 1) fun v43_17 => (k1 (xload E.P m 3 v43_17) fun v44_18 => (k1 (mbin E .rem 3 v42_16 v44_18) fun v45_19 => (k1 (mbin E .neq 3 v45_19 (.int .i64 0)) fun v46_20 => (kb v46_20 (kr (.bool false) (.int .i64 0) m) (k1 (mbin E .add 3 x11 (.int .i64 1)) fun v32_21 => (ih x1 x5 x9 x10 v32_21 m)))))))) (fun _ _ => none))) (fun _ _ => none)))))) (kx0 x5 x9 m))))) n
noncomputable def r7 (call : CallF) (fuel base : Nat) (x0 : Value) (x1 : Value) (x2 : Value) (m : M) : Res2 :=
  (k2 (xbox m x2) fun v5_1 m => (kc (call base 20 [x0, x1] m) (fun v14_2 m => (k1 (mbin E .neq 29 v14_2 (.int .i64 0)) fun v16_3 => (kb v16_3 (some (.ret (.tuple #[(.bool false), v14_2]), m)) (kc (call base 21 [x0] m) (fun v19_4 m => (k1 (xload E.P m 26 v5_1) fun v21_5 => (kc (call base 22 [v19_4, v21_5] m) (fun v22_6 m => (k1 (mun .not v22_6) fun v23_7 => (kb v23_7 (some (.ret (.tuple #[(.bool false), (.int .i64 0)]), m)) (kc (call base 23 [x0, x1] m) (fun v26_8 m => (r7_L0 call fuel base (fun y6_22 y7_23 m => (some (.ret (.tuple #[y6_22, y7_23]), m))) (fun y5_24 y9_25 m => (k1 (mfieldAddr E.P 26 y5_24 0) fun v48_26 => (k1 (xload E.P m 24 v48_26) fun v49_27 => (kc (kB m (call m.length 24 [y9_25, v49_27, y9_25] m)) (fun v51_28 m => (k1 (mfieldAddr E.P 26 y5_24 1) fun v52_29 => (k1 (xload E.P m 3 v52_29) fun v53_30 => (k1 (mbin E .rem 3 v51_28 v53_30) fun v54_31 => (k1 (mbin E .neq 3 v54_31 (.int .i64 0)) fun v55_32 => (some (.ret (.tuple #[v55_32, (.int .i64 0)]), m))))))) (fun _ _ => none))))) fuel x1 v5_1 v19_4 v26_8 (.int .i64 0) m)) (fun v m => some (.pan v, m)))))) (fun v m => some (.pan v, m))))) (fun v m => some (.pan v, m)))))) (fun v m => some (.pan v, m))))
def keep7 : Keep := { region := fun i => ([[0, 1, 5], [0, 1, 5, 8], [0, 1, 5, 8, 16], [6, 7], [0, 1, 5, 9], [0, 1, 5, 9, 23], [6, 7], [1, 5, 9, 10], [1, 5, 9, 10, 11], [1, 5, 9, 10, 11, 30], [1, 5, 9, 10, 11], [1, 5, 9, 10, 11, 46], [6, 7], [6, 7]] : List (List Nat))[i]?, exit := fun i => ([[5, 9], [1, 5, 9, 10, 11]] : List (List Nat))[i]?, ret := some [6, 7] }
noncomputable def r7_L0_R (call : CallF) (fuel base n : Nat) (vs : List Value) (m : M) (K : KT) : Res2 := match vs with
  | [x1, x5, x9, x10, x11] => r7_L0 call fuel base (fun y6 y7 m => K .ret { n := 56, l := [(6, y6), (7, y7)] } m) (fun y5 y9 m => K (.exit 0) { n := 56, l := [(5, y5), (9, y9)] } m) n x1 x5 x9 x10 x11 m
  | _ => none
noncomputable def lp7 (call : CallF) (fuel base : Nat) : Lp := lpsel [(0, fun T m K => kslots 56 [1, 5, 9, 10, 11] T fun vs => r7_L0_R call fuel base fuel vs m K)]
noncomputable def c7 : Code := Tryz.f7.body.getD .skip
theorem r7_L0_lk (call : CallF) (fuel base : Nat) : LoopsOk E call (lp7 call fuel base) fuel base 0 (loopB (blockB (seqR (seqL (seqR (seqR (seqR (seqR (seqR (seqR c7)))))))))) = (And (And True (And True True)) (And (And True (And (And True True) True)) True)) := by kernel_rfl
theorem r7_L0_ok (call : CallF) (fuel base : Nat) : LpOk E call (lp7 call fuel base) fuel base 0 (loopB (blockB (seqR (seqL (seqR (seqR (seqR (seqR (seqR (seqR c7)))))))))) := by
  refine loop_ok (kp := keep7) (hb := Eq.mpr (r7_L0_lk call fuel base) (And.intro (And.intro trivial (And.intro trivial trivial)) (And.intro (And.intro trivial (And.intro (And.intro trivial trivial) trivial)) trivial))) 56 [1, 5, 9, 10, 11] (fun n vs m K => r7_L0_R call fuel base n vs m K) ?_ ?_ (fun _ _ _ => rfl)
  · intro vs m K
    unfold r7_L0_R
    split <;> rfl
  · intro n vs m K hl
    match vs, hl with
    | [x1, x5, x9, x10, x11], _ => show _ = _; kernel_rfl
theorem r7_eq (call : CallF) (fuel base : Nat) (x0 : Value) (x1 : Value) (x2 : Value) (m : M) : kbody E call keep7 (lp7 call fuel base) base Tryz.f7 [x0, x1, x2] m = r7 call fuel base x0 x1 x2 m := by
  kernel_rfl
noncomputable def rf7 : RF := fun call fuel base args m => match args with
  | [x0, x1, x2] => r7 call fuel base x0 x1 x2 m
  | _ => none
theorem r7_lk (call : CallF) (fuel base : Nat) : LoopsOk E call (lp7 call fuel base) fuel base 0 c7 = (And True (And True (And (And True (And (And True True) True)) (And True (And (And True (And (And True True) True)) (And True (And (And True (LpOk E call (lp7 call fuel base) fuel base 0 (loopB (blockB (seqR (seqL (seqR (seqR (seqR (seqR (seqR (seqR c7)))))))))))) (And True True)))))))) := by kernel_rfl
theorem r7_fn : E.P.funcs[7]? = some Tryz.f7 := by kernel_rfl
theorem r7_body : Tryz.f7.body = some c7 := by kernel_rfl
theorem rf7_ok : RFok E 7 rf7 := by
  show RFok' E 7 rf7
  refine ⟨Tryz.f7, r7_fn, fun call fuel base args m r _ h => ?_⟩
  unfold rf7 at h
  split at h
  · rw [← r7_eq] at h
    exact kbody_sound (c := c7) r7_body (Eq.mpr (r7_lk call fuel base) (And.intro trivial (And.intro trivial (And.intro (And.intro trivial (And.intro (And.intro trivial trivial) trivial)) (And.intro trivial (And.intro (And.intro trivial (And.intro (And.intro trivial trivial) trivial)) (And.intro trivial (And.intro (And.intro trivial (r7_L0_ok call fuel base)) (And.intro trivial trivial))))))))) h
  · simp at h
end Go.AM
namespace Go.AM
open Go Go.Proofs
noncomputable def r8 (call : CallF) (fuel base : Nat) (x0 : Value) (x1 : Value) (x2 : Value) (m : M) : Res2 :=
  (k2 (xbox m x2) fun v5_1 m => (kc (call base 14 [x0, x1] m) (fun v15_2 m => (k1 (mextract 0 v15_2) fun v16_3 => (k1 (mextract 1 v15_2) fun v17_4 => (k2 (xalloc E.P m 47) fun v8_5 m => (ks (xstore E.P base m 47 v8_5 v16_3) fun m => (k1 (mun .not v17_4) fun v19_6 => (kb v19_6 (some (.ret (.tuple #[(.bool false), (.int .i64 2)]), m)) (k2 (xalloc E.P m 51) fun v10_7 m => (ks (xstore E.P base m 51 v10_7 (.func (.func 26) #[] #[])) fun m => (k1 (xload E.P m 47 v8_5) fun v21_8 => (k1 (xload E.P m 26 v5_1) fun v22_9 => (kc (kB m (call m.length 17 [v21_8, v22_9] m)) (fun v23_10 m => (kb v23_10 (k1 (mfieldAddr E.P 47 v8_5 0) fun v25_11 => (k1 (xload E.P m 44 v25_11) fun v26_12 => (k1 (xload E.P m 26 v5_1) fun v27_13 => (kc (kB m (call m.length 19 [v27_13] m)) (fun v28_14 m => (k1 (xload E.P m 51 v10_7) fun v30_15 => (kc (kB m (call m.length 18 [v26_12, v28_14, (.func (.func 27) #[] #[v10_7]), v30_15] m)) (fun v31_16 m => (some (.ret (.tuple #[v31_16, (.int .i64 0)]), m))) (fun _ _ => none)))) (fun _ _ => none))))) (some (.ret (.tuple #[(.bool false), (.int .i64 0)]), m)))) (fun _ _ => none))))))))))))) (fun v m => some (.pan v, m))))
def keep8 : Keep := { region := fun i => ([[0, 1, 5], [5, 8, 9], [5, 8, 19], [6, 7], [5, 8, 10], [5, 8, 10, 11], [6, 7]] : List (List Nat))[i]?, exit := fun i => ([] : List (List Nat))[i]?, ret := some [6, 7] }
noncomputable def lp8 (call : CallF) (fuel base : Nat) : Lp := lpsel []
noncomputable def c8 : Code := Tryz.f8.body.getD .skip
theorem r8_eq (call : CallF) (fuel base : Nat) (x0 : Value) (x1 : Value) (x2 : Value) (m : M) : kbody E call keep8 (lp8 call fuel base) base Tryz.f8 [x0, x1, x2] m = r8 call fuel base x0 x1 x2 m := by
  kernel_rfl
noncomputable def rf8 : RF := fun call fuel base args m => match args with
  | [x0, x1, x2] => r8 call fuel base x0 x1 x2 m
  | _ => none
theorem r8_lk (call : CallF) (fuel base : Nat) : LoopsOk E call (lp8 call fuel base) fuel base 0 c8 = (And True (And True (And (And True (And (And True True) True)) (And True (And True (And True True)))))) := by kernel_rfl
theorem r8_fn : E.P.funcs[8]? = some Tryz.f8 := by kernel_rfl
theorem r8_body : Tryz.f8.body = some c8 := by kernel_rfl
theorem rf8_ok : RFok E 8 rf8 := by
  show RFok' E 8 rf8
  refine ⟨Tryz.f8, r8_fn, fun call fuel base args m r _ h => ?_⟩
  unfold rf8 at h
  split at h
  · rw [← r8_eq] at h
    exact kbody_sound (c := c8) r8_body (Eq.mpr (r8_lk call fuel base) (And.intro trivial (And.intro trivial (And.intro (And.intro trivial (And.intro (And.intro trivial trivial) trivial)) (And.intro trivial (And.intro trivial (And.intro trivial trivial))))))) h
  · simp at h
end Go.AM
namespace Go.AM
open Go Go.Proofs
noncomputable def r9_L0 (call : CallF) (fuel base : Nat) (kr : Value → Value → M → Res2) (kx0 : Value → Value → M → Res2) (n : Nat) : Value → Value → Value → Value → Value → M → Res2 :=
  Nat.rec (motive := fun _ => Value → Value → Value → Value → Value → M → Res2) (fun _ _ _ _ _ _ => none)
    (fun _ ih x1 x5 x9 x10 x11 m =>
      (k2 (vcall E.P base m .len [45] [x10]) fun v29_9 m => (k1 (mbin E .lss 3 x11 v29_9) fun v30_10 => (kb v30_10 (k1 (mfieldAddr E.P 26 x5 0) fun v34_11 => (k1 (xload E.P m 24 v34_11) fun v35_12 => (k1 (mindexAddr E.P 45 x10 x11) fun v39_13 => (k1 (xload E.P m 64 v39_13) fun v40_14 => (kc (kB m (call m.length 25 [x1, v40_14] m)) (fun v41_15 m => (kc (kB m (call m.length 24 [x9, v35_12, v41_15] m)) (fun v42_16 m => (k1 (mbin E .gtr 3 v42_16 (.int .i64 0)) fun v43_17 => (kb v43_17 (kr (.bool false) (.int .i64 0) m) (k1 (mbin E .add 3 x11 (.int .i64 1)) fun v32_18 => (ih x1 x5 x9 x10 v32_18 m))))) (fun _ _ => none))) (fun _ _ => none)))))) (kx0 x5 x9 m))))) n
noncomputable def r9 (call : CallF) (fuel base : Nat) (x0 : Value) (x1 : Value) (x2 : Value) (m : M) : Res2 :=
  (k2 (xbox m x2) fun v5_1 m => (kc (call base 20 [x0, x1] m) (fun v14_2 m => (k1 (mbin E .neq 29 v14_2 (.int .i64 0)) fun v16_3 => (kb v16_3 (some (.ret (.tuple #[(.bool false), v14_2]), m)) (kc (call base 21 [x0] m) (fun v19_4 m => (k1 (xload E.P m 26 v5_1) fun v21_5 => (kc (call base 22 [v19_4, v21_5] m) (fun v22_6 m => (k1 (mun .not v22_6) fun v23_7 => (kb v23_7 (some (.ret (.tuple #[(.bool false), (.int .i64 0)]), m)) (kc (call base 23 [x0, x1] m) (fun v26_8 m => (r9_L0 call fuel base (fun y6_19 y7_20 m => (some (.ret (.tuple #[y6_19, y7_20]), m))) (fun y5_21 y9_22 m => (k1 (mfieldAddr E.P 26 y5_21 0) fun v45_23 => (k1 (xload E.P m 24 v45_23) fun v46_24 => (kc (call base 24 [y9_22, v46_24, y9_22] m) (fun v48_25 m => (k1 (mbin E .gtr 3 v48_25 (.int .i64 0)) fun v49_26 => (some (.ret (.tuple #[v49_26, (.int .i64 0)]), m)))) (fun v m => some (.pan v, m)))))) fuel x1 v5_1 v19_4 v26_8 (.int .i64 0) m)) (fun v m => some (.pan v, m)))))) (fun v m => some (.pan v, m))))) (fun v m => some (.pan v, m)))))) (fun v m => some (.pan v, m))))
def keep9 : Keep := { region := fun i => ([[0, 1, 5], [0, 1, 5, 8], [0, 1, 5, 8, 16], [6, 7], [0, 1, 5, 9], [0, 1, 5, 9, 23], [6, 7], [1, 5, 9, 10], [1, 5, 9, 10, 11], [1, 5, 9, 10, 11, 30], [1, 5, 9, 10, 11], [1, 5, 9, 10, 11, 43], [6, 7], [6, 7]] : List (List Nat))[i]?, exit := fun i => ([[5, 9], [1, 5, 9, 10, 11]] : List (List Nat))[i]?, ret := some [6, 7] }
noncomputable def r9_L0_R (call : CallF) (fuel base n : Nat) (vs : List Value) (m : M) (K : KT) : Res2 := match vs with
  | [x1, x5, x9, x10, x11] => r9_L0 call fuel base (fun y6 y7 m => K .ret { n := 50, l := [(6, y6), (7, y7)] } m) (fun y5 y9 m => K (.exit 0) { n := 50, l := [(5, y5), (9, y9)] } m) n x1 x5 x9 x10 x11 m
  | _ => none
noncomputable def lp9 (call : CallF) (fuel base : Nat) : Lp := lpsel [(0, fun T m K => kslots 50 [1, 5, 9, 10, 11] T fun vs => r9_L0_R call fuel base fuel vs m K)]
noncomputable def c9 : Code := Tryz.f9.body.getD .skip
theorem r9_L0_lk (call : CallF) (fuel base : Nat) : LoopsOk E call (lp9 call fuel base) fuel base 0 (loopB (blockB (seqR (seqL (seqR (seqR (seqR (seqR (seqR (seqR c9)))))))))) = (And (And True (And True True)) (And (And True (And (And True True) True)) True)) := by kernel_rfl
theorem r9_L0_ok (call : CallF) (fuel base : Nat) : LpOk E call (lp9 call fuel base) fuel base 0 (loopB (blockB (seqR (seqL (seqR (seqR (seqR (seqR (seqR (seqR c9)))))))))) := by
  refine loop_ok (kp := keep9) (hb := Eq.mpr (r9_L0_lk call fuel base) (And.intro (And.intro trivial (And.intro trivial trivial)) (And.intro (And.intro trivial (And.intro (And.intro trivial trivial) trivial)) trivial))) 50 [1, 5, 9, 10, 11] (fun n vs m K => r9_L0_R call fuel base n vs m K) ?_ ?_ (fun _ _ _ => rfl)
  · intro vs m K
    unfold r9_L0_R
    split <;> rfl
  · intro n vs m K hl
    match vs, hl with
    | [x1, x5, x9, x10, x11], _ => show _ = _; kernel_rfl
theorem r9_eq (call : CallF) (fuel base : Nat) (x0 : Value) (x1 : Value) (x2 : Value) (m : M) : kbody E call keep9 (lp9 call fuel base) base Tryz.f9 [x0, x1, x2] m = r9 call fuel base x0 x1 x2 m := by
  kernel_rfl
noncomputable def rf9 : RF := fun call fuel base args m => match args with
  | [x0, x1, x2] => r9 call fuel base x0 x1 x2 m
  | _ => none
theorem r9_lk (call : CallF) (fuel base : Nat) : LoopsOk E call (lp9 call fuel base) fuel base 0 c9 = (And True (And True (And (And True (And (And True True) True)) (And True (And (And True (And (And True True) True)) (And True (And (And True (LpOk E call (lp9 call fuel base) fuel base 0 (loopB (blockB (seqR (seqL (seqR (seqR (seqR (seqR (seqR (seqR c9)))))))))))) (And True True)))))))) := by kernel_rfl
theorem r9_fn : E.P.funcs[9]? = some Tryz.f9 := by kernel_rfl
theorem r9_body : Tryz.f9.body = some c9 := by kernel_rfl
theorem rf9_ok : RFok E 9 rf9 := by
  show RFok' E 9 rf9
  refine ⟨Tryz.f9, r9_fn, fun call fuel base args m r _ h => ?_⟩
  unfold rf9 at h
  split at h
  · rw [← r9_eq] at h
    exact kbody_sound (c := c9) r9_body (Eq.mpr (r9_lk call fuel base) (And.intro trivial (And.intro trivial (And.intro (And.intro trivial (And.intro (And.intro trivial trivial) trivial)) (And.intro trivial (And.intro (And.intro trivial (And.intro (And.intro trivial trivial) trivial)) (And.intro trivial (And.intro (And.intro trivial (r9_L0_ok call fuel base)) (And.intro trivial trivial))))))))) h
  · simp at h
end Go.AM
namespace Go.AM
open Go Go.Proofs
noncomputable def r10 (call : CallF) (fuel base : Nat) (x0 : Value) (m : M) : Res2 :=
  (kc (call base 28 [x0] m) (fun v5_1 m => (k1 (mun .not v5_1) fun v6_2 => (kb v6_2 (some (.ret (.tuple #[(.slice none 0 0), (.int .i64 2)]), m)) (kc (call base 29 [x0] m) (fun v8_3 m => (some (.ret (.tuple #[v8_3, (.int .i64 0)]), m))) (fun v m => some (.pan v, m)))))) (fun v m => some (.pan v, m)))
def keep10 : Keep := { region := fun i => ([[0], [0, 6], [2, 3], [2, 3]] : List (List Nat))[i]?, exit := fun i => ([] : List (List Nat))[i]?, ret := some [2, 3] }
noncomputable def lp10 (call : CallF) (fuel base : Nat) : Lp := lpsel []
noncomputable def c10 : Code := Tryz.f10.body.getD .skip
theorem r10_eq (call : CallF) (fuel base : Nat) (x0 : Value) (m : M) : kbody E call keep10 (lp10 call fuel base) base Tryz.f10 [x0] m = r10 call fuel base x0 m := by
  kernel_rfl
noncomputable def rf10 : RF := fun call fuel base args m => match args with
  | [x0] => r10 call fuel base x0 m
  | _ => none
theorem r10_lk (call : CallF) (fuel base : Nat) : LoopsOk E call (lp10 call fuel base) fuel base 0 c10 = (And True (And (And True (And (And True True) True)) (And True True))) := by kernel_rfl
theorem r10_fn : E.P.funcs[10]? = some Tryz.f10 := by kernel_rfl
theorem r10_body : Tryz.f10.body = some c10 := by kernel_rfl
theorem rf10_ok : RFok E 10 rf10 := by
  show RFok' E 10 rf10
  refine ⟨Tryz.f10, r10_fn, fun call fuel base args m r _ h => ?_⟩
  unfold rf10 at h
  split at h
  · rw [← r10_eq] at h
    exact kbody_sound (c := c10) r10_body (Eq.mpr (r10_lk call fuel base) (And.intro trivial (And.intro (And.intro trivial (And.intro (And.intro trivial trivial) trivial)) (And.intro trivial trivial)))) h
  · simp at h
end Go.AM
namespace Go.AM
open Go Go.Proofs
noncomputable def r11 (call : CallF) (fuel base : Nat) (m : M) : Res2 :=
  (k1 (mbuild E.P 68 [(0, (.int .i64 0)), (1, (.int .i64 0))]) fun v1_1 => (k1 (mbuild E.P 68 [(0, (.int .i64 1)), (1, (.int .i64 0))]) fun v2_2 => (k1 (mbuild E.P 68 [(0, (.int .i64 0)), (1, (.int .i64 1))]) fun v3_3 => (k2 (xbuildSlice E.P m 34 3 [(0, v1_1), (1, v2_2), (2, v3_3)]) fun v4_4 m => (fVal v4_4 fun v => some (.ret v, m))))))
def keep11 : Keep := { region := fun i => ([[], [0]] : List (List Nat))[i]?, exit := fun i => ([] : List (List Nat))[i]?, ret := some [0] }
noncomputable def lp11 (call : CallF) (fuel base : Nat) : Lp := lpsel []
noncomputable def c11 : Code := Tryz.f11.body.getD .skip
theorem r11_eq (call : CallF) (fuel base : Nat) (m : M) : kbody E call keep11 (lp11 call fuel base) base Tryz.f11 [] m = r11 call fuel base  m := by
  kernel_rfl
noncomputable def rf11 : RF := fun call fuel base args m => match args with
  | [] => r11 call fuel base  m
  | _ => none
theorem r11_lk (call : CallF) (fuel base : Nat) : LoopsOk E call (lp11 call fuel base) fuel base 0 c11 = (And True (And True True)) := by kernel_rfl
theorem r11_fn : E.P.funcs[11]? = some Tryz.f11 := by kernel_rfl
theorem r11_body : Tryz.f11.body = some c11 := by kernel_rfl
theorem rf11_ok : RFok E 11 rf11 := by
  show RFok' E 11 rf11
  refine ⟨Tryz.f11, r11_fn, fun call fuel base args m r _ h => ?_⟩
  unfold rf11 at h
  split at h
  · rw [← r11_eq] at h
    exact kbody_sound (c := c11) r11_body (Eq.mpr (r11_lk call fuel base) (And.intro trivial (And.intro trivial trivial))) h
  · simp at h
end Go.AM
namespace Go.AM
open Go Go.Proofs
noncomputable def r12 (call : CallF) (fuel base : Nat) (x0 : Value) (x1 : Value) (m : M) : Res2 :=
  (kc (call base 14 [x0, x1] m) (fun v13_1 m => (k1 (mextract 0 v13_1) fun v14_2 => (k1 (mextract 1 v13_1) fun v15_3 => (k2 (xalloc E.P m 47) fun v6_4 m => (ks (xstore E.P base m 47 v6_4 v14_2) fun m => (k1 (mun .not v15_3) fun v17_5 => (kb v17_5 (some (.ret (.tuple #[(.slice none 0 0), (.int .i64 2)]), m)) (k1 (mfieldAddr E.P 47 v6_4 0) fun v19_6 => (k1 (xload E.P m 44 v19_6) fun v20_7 => (kc (call base 30 [v20_7] m) (fun v21_8 m => (kc (call base 31 [v21_8] m) (fun v22_9 m => (k1 (mextract 0 v22_9) fun v23_10 => (k1 (mextract 1 v22_9) fun v24_11 => (k1 (mbin E .neq 70 v24_11 (.slice none 0 0)) fun v26_12 => (kb v26_12 (some (.ret (.tuple #[(.slice none 0 0), (.int .i64 10)]), m)) (some (.ret (.tuple #[v23_10, (.int .i64 0)]), m))))))) (fun v m => some (.pan v, m)))) (fun v m => some (.pan v, m)))))))))))) (fun v m => some (.pan v, m)))
def keep12 : Keep := { region := fun i => ([[0, 1], [6, 7], [6, 17], [4, 5], [8, 9], [8, 26], [4, 5], [4, 5]] : List (List Nat))[i]?, exit := fun i => ([] : List (List Nat))[i]?, ret := some [4, 5] }
noncomputable def lp12 (call : CallF) (fuel base : Nat) : Lp := lpsel []
noncomputable def c12 : Code := Tryz.f12.body.getD .skip
theorem r12_eq (call : CallF) (fuel base : Nat) (x0 : Value) (x1 : Value) (m : M) : kbody E call keep12 (lp12 call fuel base) base Tryz.f12 [x0, x1] m = r12 call fuel base x0 x1 m := by
  kernel_rfl
noncomputable def rf12 : RF := fun call fuel base args m => match args with
  | [x0, x1] => r12 call fuel base x0 x1 m
  | _ => none
theorem r12_lk (call : CallF) (fuel base : Nat) : LoopsOk E call (lp12 call fuel base) fuel base 0 c12 = (And True (And True (And (And True (And (And True True) True)) (And True (And (And True (And (And True True) True)) (And True True)))))) := by kernel_rfl
theorem r12_fn : E.P.funcs[12]? = some Tryz.f12 := by kernel_rfl
theorem r12_body : Tryz.f12.body = some c12 := by kernel_rfl
theorem rf12_ok : RFok E 12 rf12 := by
  show RFok' E 12 rf12
  refine ⟨Tryz.f12, r12_fn, fun call fuel base args m r _ h => ?_⟩
  unfold rf12 at h
  split at h
  · rw [← r12_eq] at h
    exact kbody_sound (c := c12) r12_body (Eq.mpr (r12_lk call fuel base) (And.intro trivial (And.intro trivial (And.intro (And.intro trivial (And.intro (And.intro trivial trivial) trivial)) (And.intro trivial (And.intro (And.intro trivial (And.intro (And.intro trivial trivial) trivial)) (And.intro trivial trivial))))))) h
  · simp at h
end Go.AM
namespace Go.AM
open Go Go.Proofs
noncomputable def r13 (call : CallF) (fuel base : Nat) (x0 : Value) (x1 : Value) (m : M) : Res2 :=
  (k2 (xalloc E.P m 26) fun v4_1 m => (kc (call base 14 [x0, x1] m) (fun v13_2 m => (k1 (mextract 0 v13_2) fun v14_3 => (k1 (mextract 1 v13_2) fun v15_4 => (k2 (xalloc E.P m 47) fun v6_5 m => (ks (xstore E.P base m 47 v6_5 v14_3) fun m => (k1 (mun .not v15_4) fun v17_6 => (kb v17_6 (k1 (mbuild E.P 26 []) fun v18_7 => (ks (xstore E.P base m 26 v4_1 v18_7) fun m => (k0 (mload E.P m 26 v4_1) fun r_8 => (some (.ret (.tuple #[r_8, (.int .i64 2)]), m))))) (k1 (mfieldAddr E.P 47 v6_5 0) fun v20_9 => (k1 (xload E.P m 44 v20_9) fun v21_10 => (kc (call base 30 [v21_10] m) (fun v22_11 m => (kc (call base 31 [v22_11] m) (fun v23_12 m => (k1 (mextract 0 v23_12) fun v24_13 => (k1 (mextract 1 v23_12) fun v25_14 => (k1 (mbin E .eql 70 v25_14 (.slice none 0 0)) fun v27_15 => (kb v27_15 (k1 (mbuild E.P 26 []) fun v28_16 => (ks (xstore E.P base m 26 v4_1 v28_16) fun m => (k0 (mload E.P m 26 v4_1) fun r_17 => (some (.ret (.tuple #[r_17, (.int .i64 10)]), m))))) (kc (call base 32 [v25_14] m) (fun v30_18 m => (ks (xstore E.P base m 26 v4_1 v30_18) fun m => (k0 (mload E.P m 26 v4_1) fun r_19 => (some (.ret (.tuple #[r_19, (.int .i64 0)]), m))))) (fun v m => some (.pan v, m)))))))) (fun v m => some (.pan v, m)))) (fun v m => some (.pan v, m)))))))))))) (fun v m => some (.pan v, m))))
def keep13 : Keep := { region := fun i => ([[0, 1, 4], [4, 6, 7], [4, 6, 17], [4, 5], [4, 9], [4, 9, 27], [4, 5], [4, 5]] : List (List Nat))[i]?, exit := fun i => ([] : List (List Nat))[i]?, ret := some [4, 5] }
noncomputable def lp13 (call : CallF) (fuel base : Nat) : Lp := lpsel []
noncomputable def c13 : Code := Tryz.f13.body.getD .skip
theorem r13_eq (call : CallF) (fuel base : Nat) (x0 : Value) (x1 : Value) (m : M) : kbody E call keep13 (lp13 call fuel base) base Tryz.f13 [x0, x1] m = r13 call fuel base x0 x1 m := by
  kernel_rfl
noncomputable def rf13 : RF := fun call fuel base args m => match args with
  | [x0, x1] => r13 call fuel base x0 x1 m
  | _ => none
theorem r13_lk (call : CallF) (fuel base : Nat) : LoopsOk E call (lp13 call fuel base) fuel base 0 c13 = (And True (And True (And (And True (And (And True True) True)) (And True (And (And True (And (And True True) True)) (And True True)))))) := by kernel_rfl
theorem r13_fn : E.P.funcs[13]? = some Tryz.f13 := by kernel_rfl
theorem r13_body : Tryz.f13.body = some c13 := by kernel_rfl
theorem rf13_ok : RFok E 13 rf13 := by
  show RFok' E 13 rf13
  refine ⟨Tryz.f13, r13_fn, fun call fuel base args m r _ h => ?_⟩
  unfold rf13 at h
  split at h
  · rw [← r13_eq] at h
    exact kbody_sound (c := c13) r13_body (Eq.mpr (r13_lk call fuel base) (And.intro trivial (And.intro trivial (And.intro (And.intro trivial (And.intro (And.intro trivial trivial) trivial)) (And.intro trivial (And.intro (And.intro trivial (And.intro (And.intro trivial trivial) trivial)) (And.intro trivial trivial))))))) h
  · simp at h
end Go.AM
namespace Go.AM
open Go Go.Proofs
noncomputable def r14_L2 (call : CallF) (fuel base : Nat) (kp : Value → M → Res2) (kx2 : Value → Value → Value → Value → Value → Value → M → Res2) (n : Nat) : Value → Value → Value → Value → Value → Value → Value → Value → Value → Value → M → Res2 :=
  Nat.rec (motive := fun _ => Value → Value → Value → Value → Value → Value → Value → Value → Value → Value → M → Res2) (fun _ _ _ _ _ _ _ _ _ _ _ => none)
    (fun _ ih x1 x4 x8 x10 x33 x34 x35 x48 x49 x50 m =>
      (k1 (mbin E .lss 3 x50 x49) fun v51_30 => (kb v51_30 (k1 (mindexAddr E.P 23 x48 x50) fun v53_31 => (k1 (xload E.P m 34 v53_31) fun v54_32 => (k1 (xload E.P m 47 x8) fun v55_33 => (k1 (xload E.P m 68 x10) fun v57_34 => (kc (call base 35 [v55_33, v54_32, v57_34] m) (fun v58_35 m => (k1 (mbin E .neq 24 v58_35 (.slice none 0 0)) fun v60_36 => (kb v60_36 (k1 (mfieldAddr E.P 47 x8 2) fun v61_37 => (k1 (xload E.P m 45 v61_37) fun v62_38 => (k1 (mfieldAddr E.P 68 x10 0) fun v64_39 => (k1 (xload E.P m 3 v64_39) fun v65_40 => (k1 (mfieldAddr E.P 68 x10 1) fun v66_41 => (k1 (xload E.P m 3 v66_41) fun v67_42 => (k1 (mbuild E.P 64 [(0, x50), (1, v65_40), (2, v67_42)]) fun v68_43 => (k2 (xbuildSlice E.P m 45 1 [(0, v68_43)]) fun v69_44 m => (k2 (vcall E.P base m .append [45, 45] [v62_38, v69_44]) fun v70_45 m => (k1 (mfieldAddr E.P 47 x8 2) fun v71_46 => (ks (xstore E.P base m 45 v71_46 v70_45) fun m => (k1 (mfieldAddr E.P 47 x8 0) fun v72_47 => (k1 (mfieldAddr E.P 44 v72_47 1) fun v73_48 => (k1 (xload E.P m 42 v73_48) fun v74_49 => (k2 (xbuildSlice E.P m 42 1 [(0, v58_35)]) fun v76_50 m => (k2 (vcall E.P base m .append [42, 42] [v74_49, v76_50]) fun v77_51 m => (k1 (mfieldAddr E.P 47 x8 0) fun v78_52 => (k1 (mfieldAddr E.P 44 v78_52 1) fun v79_53 => (ks (xstore E.P base m 42 v79_53 v77_51) fun m => (k1 (mbin E .add 3 x50 (.int .i64 1)) fun v80_54 => (ih x1 x4 x8 x10 x33 x34 x35 x48 x49 v80_54 m))))))))))))))))))))) (k1 (mbin E .add 3 x50 (.int .i64 1)) fun v80_55 => (ih x1 x4 x8 x10 x33 x34 x35 x48 x49 v80_55 m))))) (fun v m => kp v m)))))) (kx2 x1 x4 x8 x33 x34 x35 m)))) n
noncomputable def r14_L0 (call : CallF) (fuel base : Nat) (kp : Value → M → Res2) (kx0 : Value → Value → M → Res2) (n : Nat) : Value → Value → Value → Value → Value → Value → M → Res2 :=
  Nat.rec (motive := fun _ => Value → Value → Value → Value → Value → Value → M → Res2) (fun _ _ _ _ _ _ _ => none)
    (fun _ ih x1 x4 x8 x33 x34 x35 m =>
      (k1 (mbin E .lss 3 x35 x34) fun v36_18 => (kb v36_18 (k1 (mindexAddr E.P 33 x33 x35) fun v38_19 => (k1 (xload E.P m 68 v38_19) fun v39_20 => (k2 (xalloc E.P m 68) fun v10_21 m => (ks (xstore E.P base m 68 v10_21 v39_20) fun m => (k1 (mfieldAddr E.P 47 x8 0) fun v40_22 => (k1 (mfieldAddr E.P 44 v40_22 2) fun v41_23 => (k1 (xload E.P m 24 v41_23) fun v42_24 => (k2 (xbuildSlice E.P m 24 1 [(0, x35)]) fun v44_25 m => (k2 (vcall E.P base m .append [24, 24] [v42_24, v44_25]) fun v45_26 m => (k1 (mfieldAddr E.P 47 x8 0) fun v46_27 => (k1 (mfieldAddr E.P 44 v46_27 2) fun v47_28 => (ks (xstore E.P base m 24 v47_28 v45_26) fun m => (k2 (vcall E.P base m .len [23] [x1]) fun v49_29 m => (r14_L2 call fuel base (fun v m => kp v m) (fun y1_56 y4_57 y8_58 y33_59 y34_60 y35_61 m => (k1 (mbin E .add 3 y35_61 (.int .i64 1)) fun v81_62 => (ih y1_56 y4_57 y8_58 y33_59 y34_60 v81_62 m))) fuel x1 x4 x8 v10_21 x33 x34 x35 x1 v49_29 (.int .i64 0) m)))))))))))))) (kx0 x4 x8 m)))) n
noncomputable def r14 (call : CallF) (fuel base : Nat) (x0 : Value) (x1 : Value) (m : M) : Res2 :=
  (k2 (xalloc E.P m 47) fun v4_1 m => (kc (call base 33 [x0] m) (fun v16_2 m => (k1 (mextract 0 v16_2) fun v17_3 => (k1 (mextract 1 v16_2) fun v18_4 => (k1 (mun .not v18_4) fun v20_5 => (kb v20_5 (k1 (mbuild E.P 47 []) fun v26_6 => (ks (xstore E.P base m 47 v4_1 v26_6) fun m => (k0 (mload E.P m 47 v4_1) fun r_7 => (some (.ret (.tuple #[r_7, (.bool false)]), m))))) (kc (call base 34 [x1] m) (fun v23_8 m => (k1 (mun .not v23_8) fun v24_9 => (kb v24_9 (k1 (mbuild E.P 47 []) fun v26_10 => (ks (xstore E.P base m 47 v4_1 v26_10) fun m => (k0 (mload E.P m 47 v4_1) fun r_11 => (some (.ret (.tuple #[r_11, (.bool false)]), m))))) (k1 (mbuild E.P 47 [(1, v17_3)]) fun v28_12 => (k2 (xalloc E.P m 47) fun v8_13 m => (ks (xstore E.P base m 47 v8_13 v28_12) fun m => (k2 (vcall E.P base m .len [33] [v17_3]) fun v30_14 m => (k1 (mfieldAddr E.P 47 v8_13 0) fun v31_15 => (k1 (mfieldAddr E.P 44 v31_15 0) fun v32_16 => (ks (xstore E.P base m 3 v32_16 v30_14) fun m => (k2 (vcall E.P base m .len [33] [v17_3]) fun v34_17 m => (r14_L0 call fuel base (fun v m => some (.pan v, m)) (fun y4_63 y8_64 m => (k1 (xload E.P m 47 y8_64) fun v82_65 => (ks (xstore E.P base m 47 y4_63 v82_65) fun m => (k0 (mload E.P m 47 y4_63) fun r_66 => (some (.ret (.tuple #[r_66, (.bool true)]), m)))))) fuel x1 v4_1 v8_13 v17_3 v34_17 (.int .i64 0) m)))))))))))) (fun v m => some (.pan v, m)))))))) (fun v m => some (.pan v, m))))
def keep14 : Keep := { region := fun i => ([[0, 1, 4], [1, 4, 6, 7], [1, 4, 6, 25], [4, 5], [1, 4, 6, 8], [1, 4, 6, 8], [1, 4, 8, 33, 34, 35], [1, 4, 8, 33, 34, 35, 36], [1, 4, 8, 9, 10, 33, 34, 35], [1, 4, 8, 10, 33, 34, 35], [1, 4, 8, 10, 33, 34, 35, 48, 49, 50], [1, 4, 8, 10, 33, 34, 35, 48, 49, 50, 51], [1, 4, 8, 10, 11, 12, 33, 34, 35, 48, 49, 50], [1, 4, 8, 10, 11, 13, 33, 34, 35, 48, 49, 50], [1, 4, 8, 10, 11, 13, 33, 34, 35, 48, 49, 50, 60], [1, 4, 8, 10, 13, 33, 34, 35, 48, 49, 50], [1, 4, 8, 10, 33, 34, 35, 48, 49, 50], [1, 4, 8, 10, 33, 34, 35, 48, 49, 50], [1, 4, 8, 33, 34, 35], [4, 5]] : List (List Nat))[i]?, exit := fun i => ([[4, 8], [1, 4, 8, 33, 34, 35], [1, 4, 8, 33, 34, 35], [1, 4, 8, 10, 33, 34, 35, 48, 49, 50]] : List (List Nat))[i]?, ret := some [4, 5] }
noncomputable def r14_L2_R (call : CallF) (fuel base n : Nat) (vs : List Value) (m : M) (K : KT) : Res2 := match vs with
  | [x1, x4, x8, x10, x33, x34, x35, x48, x49, x50] => r14_L2 call fuel base (fun v m => K (.pan v) { n := 83, l := [] } m) (fun y1 y4 y8 y33 y34 y35 m => K (.exit 2) { n := 83, l := [(1, y1), (4, y4), (8, y8), (33, y33), (34, y34), (35, y35)] } m) n x1 x4 x8 x10 x33 x34 x35 x48 x49 x50 m
  | _ => none
noncomputable def r14_L0_R (call : CallF) (fuel base n : Nat) (vs : List Value) (m : M) (K : KT) : Res2 := match vs with
  | [x1, x4, x8, x33, x34, x35] => r14_L0 call fuel base (fun v m => K (.pan v) { n := 83, l := [] } m) (fun y4 y8 m => K (.exit 0) { n := 83, l := [(4, y4), (8, y8)] } m) n x1 x4 x8 x33 x34 x35 m
  | _ => none
noncomputable def lp14 (call : CallF) (fuel base : Nat) : Lp := lpsel [(2, fun T m K => kslots 83 [1, 4, 8, 10, 33, 34, 35, 48, 49, 50] T fun vs => r14_L2_R call fuel base fuel vs m K), (0, fun T m K => kslots 83 [1, 4, 8, 33, 34, 35] T fun vs => r14_L0_R call fuel base fuel vs m K)]
noncomputable def c14 : Code := Tryz.f14.body.getD .skip
theorem r14_L2_lk (call : CallF) (fuel base : Nat) : LoopsOk E call (lp14 call fuel base) fuel base 2 (loopB (blockB (seqR (seqR (seqR (blockB (seqL (seqR (seqR (loopB (blockB (seqR (seqL (seqR (seqR (seqR (seqR (seqR c14)))))))))))))))))) = (And True (And (And True True) (And (And True (And True (And True (And (And True True) True)))) True))) := by kernel_rfl
theorem r14_L2_ok (call : CallF) (fuel base : Nat) : LpOk E call (lp14 call fuel base) fuel base 2 (loopB (blockB (seqR (seqR (seqR (blockB (seqL (seqR (seqR (loopB (blockB (seqR (seqL (seqR (seqR (seqR (seqR (seqR c14)))))))))))))))))) := by
  refine loop_ok (kp := keep14) (hb := Eq.mpr (r14_L2_lk call fuel base) (And.intro trivial (And.intro (And.intro trivial trivial) (And.intro (And.intro trivial (And.intro trivial (And.intro trivial (And.intro (And.intro trivial trivial) trivial)))) trivial)))) 83 [1, 4, 8, 10, 33, 34, 35, 48, 49, 50] (fun n vs m K => r14_L2_R call fuel base n vs m K) ?_ ?_ (fun _ _ _ => rfl)
  · intro vs m K
    unfold r14_L2_R
    split <;> rfl
  · intro n vs m K hl
    match vs, hl with
    | [x1, x4, x8, x10, x33, x34, x35, x48, x49, x50], _ => show _ = _; kernel_rfl
theorem r14_L0_lk (call : CallF) (fuel base : Nat) : LoopsOk E call (lp14 call fuel base) fuel base 0 (loopB (blockB (seqR (seqL (seqR (seqR (seqR (seqR (seqR c14))))))))) = (And True (And (And True True) (And (And True (And True (And True (LpOk E call (lp14 call fuel base) fuel base 2 (loopB (blockB (seqR (seqR (seqR (blockB (seqL (seqR (seqR (loopB (blockB (seqR (seqL (seqR (seqR (seqR (seqR (seqR c14)))))))))))))))))))))) True))) := by kernel_rfl
theorem r14_L0_ok (call : CallF) (fuel base : Nat) : LpOk E call (lp14 call fuel base) fuel base 0 (loopB (blockB (seqR (seqL (seqR (seqR (seqR (seqR (seqR c14))))))))) := by
  refine loop_ok (kp := keep14) (hb := Eq.mpr (r14_L0_lk call fuel base) (And.intro trivial (And.intro (And.intro trivial trivial) (And.intro (And.intro trivial (And.intro trivial (And.intro trivial (r14_L2_ok call fuel base)))) trivial)))) 83 [1, 4, 8, 33, 34, 35] (fun n vs m K => r14_L0_R call fuel base n vs m K) ?_ ?_ (fun _ _ _ => rfl)
  · intro vs m K
    unfold r14_L0_R
    split <;> rfl
  · intro n vs m K hl
    match vs, hl with
    | [x1, x4, x8, x33, x34, x35], _ => show _ = _; kernel_rfl
theorem r14_eq (call : CallF) (fuel base : Nat) (x0 : Value) (x1 : Value) (m : M) : kbody E call keep14 (lp14 call fuel base) base Tryz.f14 [x0, x1] m = r14 call fuel base x0 x1 m := by
  kernel_rfl
noncomputable def rf14 : RF := fun call fuel base args m => match args with
  | [x0, x1] => r14 call fuel base x0 x1 m
  | _ => none
theorem r14_lk (call : CallF) (fuel base : Nat) : LoopsOk E call (lp14 call fuel base) fuel base 0 c14 = (And True (And True (And (And True (And (And True True) True)) (And True (And True (And (And True (LpOk E call (lp14 call fuel base) fuel base 0 (loopB (blockB (seqR (seqL (seqR (seqR (seqR (seqR (seqR c14))))))))))) (And True True))))))) := by kernel_rfl
theorem r14_fn : E.P.funcs[14]? = some Tryz.f14 := by kernel_rfl
theorem r14_body : Tryz.f14.body = some c14 := by kernel_rfl
theorem rf14_ok : RFok E 14 rf14 := by
  show RFok' E 14 rf14
  refine ⟨Tryz.f14, r14_fn, fun call fuel base args m r _ h => ?_⟩
  unfold rf14 at h
  split at h
  · rw [← r14_eq] at h
    exact kbody_sound (c := c14) r14_body (Eq.mpr (r14_lk call fuel base) (And.intro trivial (And.intro trivial (And.intro (And.intro trivial (And.intro (And.intro trivial trivial) trivial)) (And.intro trivial (And.intro trivial (And.intro (And.intro trivial (r14_L0_ok call fuel base)) (And.intro trivial trivial)))))))) h
  · simp at h
end Go.AM
namespace Go.AM
open Go Go.Proofs
noncomputable def r15 (call : CallF) (fuel base : Nat) (x0 : Value) (x1 : Value) (m : M) : Res2 :=
  (k1 (mfieldAddr E.P 26 x1 1) fun v5_1 => (k1 (xload E.P m 3 v5_1) fun v6_2 => (k1 (mbin E .rem 50 x0 v6_2) fun v7_3 => (k1 (mbin E .eql 50 v7_3 (.int .i64 0)) fun v8_4 => (fVal v8_4 fun v => some (.ret v, m))))))
def keep15 : Keep := { region := fun i => ([[0, 1], [3]] : List (List Nat))[i]?, exit := fun i => ([] : List (List Nat))[i]?, ret := some [3] }
noncomputable def lp15 (call : CallF) (fuel base : Nat) : Lp := lpsel []
noncomputable def c15 : Code := Tryz.f15.body.getD .skip
theorem r15_eq (call : CallF) (fuel base : Nat) (x0 : Value) (x1 : Value) (m : M) : kbody E call keep15 (lp15 call fuel base) base Tryz.f15 [x0, x1] m = r15 call fuel base x0 x1 m := by
  kernel_rfl
noncomputable def rf15 : RF := fun call fuel base args m => match args with
  | [x0, x1] => r15 call fuel base x0 x1 m
  | _ => none
theorem r15_lk (call : CallF) (fuel base : Nat) : LoopsOk E call (lp15 call fuel base) fuel base 0 c15 = (And True (And True True)) := by kernel_rfl
theorem r15_fn : E.P.funcs[15]? = some Tryz.f15 := by kernel_rfl
theorem r15_body : Tryz.f15.body = some c15 := by kernel_rfl
theorem rf15_ok : RFok E 15 rf15 := by
  show RFok' E 15 rf15
  refine ⟨Tryz.f15, r15_fn, fun call fuel base args m r _ h => ?_⟩
  unfold rf15 at h
  split at h
  · rw [← r15_eq] at h
    exact kbody_sound (c := c15) r15_body (Eq.mpr (r15_lk call fuel base) (And.intro trivial (And.intro trivial trivial))) h
  · simp at h
end Go.AM
namespace Go.AM
open Go Go.Proofs
noncomputable def r16 (call : CallF) (fuel base : Nat) (x0 : Value) (x1 : Value) (m : M) : Res2 :=
  (k1 (xload E.P m 51 x1) fun v4_1 => (kc (kv call base v4_1 [x0] m) (fun v6_2 m => (k1 (mun .not v6_2) fun v7_3 => (fVal v7_3 fun v => some (.ret v, m)))) (fun v m => some (.pan v, m))))
def keep16 : Keep := { region := fun i => ([[0, 1], [3]] : List (List Nat))[i]?, exit := fun i => ([] : List (List Nat))[i]?, ret := some [3] }
noncomputable def lp16 (call : CallF) (fuel base : Nat) : Lp := lpsel []
noncomputable def c16 : Code := Tryz.f16.body.getD .skip
theorem r16_eq (call : CallF) (fuel base : Nat) (x0 : Value) (x1 : Value) (m : M) : kbody E call keep16 (lp16 call fuel base) base Tryz.f16 [x0, x1] m = r16 call fuel base x0 x1 m := by
  kernel_rfl
noncomputable def rf16 : RF := fun call fuel base args m => match args with
  | [x0, x1] => r16 call fuel base x0 x1 m
  | _ => none
theorem r16_lk (call : CallF) (fuel base : Nat) : LoopsOk E call (lp16 call fuel base) fuel base 0 c16 = (And True (And True True)) := by kernel_rfl
theorem r16_fn : E.P.funcs[16]? = some Tryz.f16 := by kernel_rfl
theorem r16_body : Tryz.f16.body = some c16 := by kernel_rfl
theorem rf16_ok : RFok E 16 rf16 := by
  show RFok' E 16 rf16
  refine ⟨Tryz.f16, r16_fn, fun call fuel base args m r _ h => ?_⟩
  unfold rf16 at h
  split at h
  · rw [← r16_eq] at h
    exact kbody_sound (c := c16) r16_body (Eq.mpr (r16_lk call fuel base) (And.intro trivial (And.intro trivial trivial))) h
  · simp at h
end Go.AM
namespace Go.AM
open Go Go.Proofs
noncomputable def r17_L0 (call : CallF) (fuel base : Nat) (kr : Value → M → Res2) (kx0 : M → Res2) (n : Nat) : Value → Value → Value → M → Res2 :=
  Nat.rec (motive := fun _ => Value → Value → Value → M → Res2) (fun _ _ _ _ => none)
    (fun _ ih x25 x26 x27 m =>
      (k1 (mbin E .lss 3 x27 x26) fun v28_19 => (kb v28_19 (k1 (mindexAddr E.P 24 x25 x27) fun v29_20 => (k1 (xload E.P m 3 v29_20) fun v30_21 => (k1 (mbin E .lss 3 v30_21 (.int .i64 (-1099511627776))) fun v32_22 => (kb v32_22 (kr (.bool false) m) (k1 (mbin E .gtr 3 v30_21 (.int .i64 1099511627776)) fun v35_23 => (kb v35_23 (kr (.bool false) m) (k1 (mbin E .add 3 x27 (.int .i64 1)) fun v37_24 => (ih x25 x26 v37_24 m)))))))) (kx0 m)))) n
noncomputable def r17 (call : CallF) (fuel base : Nat) (x0 : Value) (x1 : Value) (m : M) : Res2 :=
  (k2 (xbox m x0) fun v2_1 m => (k2 (xbox m x1) fun v3_2 m => (k1 (mfieldAddr E.P 26 v3_2 0) fun v7_3 => (k1 (xload E.P m 24 v7_3) fun v8_4 => (k2 (vcall E.P base m .len [24] [v8_4]) fun v9_5 m => (k1 (mfieldAddr E.P 47 v2_1 0) fun v10_6 => (k1 (mfieldAddr E.P 44 v10_6 0) fun v11_7 => (k1 (xload E.P m 3 v11_7) fun v12_8 => (k1 (mbin E .neq 3 v9_5 v12_8) fun v13_9 => (kb v13_9 (fVal (.bool false) fun v => some (.ret v, m)) (k1 (mfieldAddr E.P 26 v3_2 1) fun v15_10 => (k1 (xload E.P m 3 v15_10) fun v16_11 => (k1 (mbin E .lss 3 v16_11 (.int .i64 1)) fun v17_12 => (kb v17_12 (fVal (.bool false) fun v => some (.ret v, m)) (k1 (mfieldAddr E.P 26 v3_2 1) fun v20_13 => (k1 (xload E.P m 3 v20_13) fun v21_14 => (k1 (mbin E .gtr 3 v21_14 (.int .i64 1099511627776)) fun v22_15 => (kb v22_15 (fVal (.bool false) fun v => some (.ret v, m)) (k1 (mfieldAddr E.P 26 v3_2 0) fun v24_16 => (k1 (xload E.P m 24 v24_16) fun v25_17 => (k2 (vcall E.P base m .len [24] [v25_17]) fun v26_18 m => (r17_L0 call fuel base (fun y4_25 m => (fVal y4_25 fun v => some (.ret v, m))) (fun m => (fVal (.bool true) fun v => some (.ret v, m))) fuel v25_17 v26_18 (.int .i64 0) m))))))))))))))))))))))
def keep17 : Keep := { region := fun i => ([[2, 3], [3, 23], [4], [25, 26, 27], [25, 26, 27, 28], [6, 25, 26, 27], [25, 26, 27, 36], [4], [25, 26, 27], [4]] : List (List Nat))[i]?, exit := fun i => ([[], [25, 26, 27]] : List (List Nat))[i]?, ret := some [4] }
noncomputable def r17_L0_R (call : CallF) (fuel base n : Nat) (vs : List Value) (m : M) (K : KT) : Res2 := match vs with
  | [x25, x26, x27] => r17_L0 call fuel base (fun y4 m => K .ret { n := 38, l := [(4, y4)] } m) (fun m => K (.exit 0) { n := 38, l := [] } m) n x25 x26 x27 m
  | _ => none
noncomputable def lp17 (call : CallF) (fuel base : Nat) : Lp := lpsel [(0, fun T m K => kslots 38 [25, 26, 27] T fun vs => r17_L0_R call fuel base fuel vs m K)]
noncomputable def c17 : Code := Tryz.f17.body.getD .skip
theorem r17_L0_lk (call : CallF) (fuel base : Nat) : LoopsOk E call (lp17 call fuel base) fuel base 0 (loopB (blockB (seqR (seqL (seqR (seqR c17)))))) = (And True (And (And True True) (And (And True (And True (And (And True True) True))) True))) := by kernel_rfl
theorem r17_L0_ok (call : CallF) (fuel base : Nat) : LpOk E call (lp17 call fuel base) fuel base 0 (loopB (blockB (seqR (seqL (seqR (seqR c17)))))) := by
  refine loop_ok (kp := keep17) (hb := Eq.mpr (r17_L0_lk call fuel base) (And.intro trivial (And.intro (And.intro trivial trivial) (And.intro (And.intro trivial (And.intro trivial (And.intro (And.intro trivial trivial) trivial))) trivial)))) 38 [25, 26, 27] (fun n vs m K => r17_L0_R call fuel base n vs m K) ?_ ?_ (fun _ _ _ => rfl)
  · intro vs m K
    unfold r17_L0_R
    split <;> rfl
  · intro n vs m K hl
    match vs, hl with
    | [x25, x26, x27], _ => show _ = _; kernel_rfl
theorem r17_eq (call : CallF) (fuel base : Nat) (x0 : Value) (x1 : Value) (m : M) : kbody E call keep17 (lp17 call fuel base) base Tryz.f17 [x0, x1] m = r17 call fuel base x0 x1 m := by
  kernel_rfl
noncomputable def rf17 : RF := fun call fuel base args m => match args with
  | [x0, x1] => r17 call fuel base x0 x1 m
  | _ => none
theorem r17_lk (call : CallF) (fuel base : Nat) : LoopsOk E call (lp17 call fuel base) fuel base 0 c17 = (And True (And (And True (And (And True True) True)) (And (And True (LpOk E call (lp17 call fuel base) fuel base 0 (loopB (blockB (seqR (seqL (seqR (seqR c17)))))))) (And True True)))) := by kernel_rfl
theorem r17_fn : E.P.funcs[17]? = some Tryz.f17 := by kernel_rfl
theorem r17_body : Tryz.f17.body = some c17 := by kernel_rfl
theorem rf17_ok : RFok E 17 rf17 := by
  show RFok' E 17 rf17
  refine ⟨Tryz.f17, r17_fn, fun call fuel base args m r _ h => ?_⟩
  unfold rf17 at h
  split at h
  · rw [← r17_eq] at h
    exact kbody_sound (c := c17) r17_body (Eq.mpr (r17_lk call fuel base) (And.intro trivial (And.intro (And.intro trivial (And.intro (And.intro trivial trivial) trivial)) (And.intro (And.intro trivial (r17_L0_ok call fuel base)) (And.intro trivial trivial))))) h
  · simp at h
end Go.AM
namespace Go.AM
open Go Go.Proofs
noncomputable def r18_L0 (call : CallF) (fuel base : Nat) (kp : Value → M → Res2) (kr : Value → M → Res2) (kx0 : Value → Value → Value → M → Res2) (n : Nat) : Value → Value → Value → Value → Value → Value → Value → M → Res2 :=
  Nat.rec (motive := fun _ => Value → Value → Value → Value → Value → Value → Value → M → Res2) (fun _ _ _ _ _ _ _ _ => none)
    (fun _ ih x1 x2 x3 x4 x12 x13 x14 m =>
      (k1 (mbin E .lss 3 x14 x13) fun v15_5 => (kb v15_5 (k1 (mindexAddr E.P 42 x12 x14) fun v16_6 => (k1 (xload E.P m 24 v16_6) fun v17_7 => (kc (call base 36 [x1, v17_7] m) (fun v21_8 m => (kc (kv call base x2 [v21_8] m) (fun v22_9 m => (k1 (mun .not v22_9) fun v23_10 => (kb v23_10 (kr (.bool false) m) (k1 (mbin E .add 3 x14 (.int .i64 1)) fun v24_11 => (ih x1 x2 x3 x4 x12 x13 v24_11 m))))) (fun v m => kp v m))) (fun v m => kp v m)))) (kx0 x1 x3 x4 m)))) n
noncomputable def r18 (call : CallF) (fuel base : Nat) (x0 : Value) (x1 : Value) (x2 : Value) (x3 : Value) (m : M) : Res2 :=
  (k2 (xbox m x0) fun v4_1 m => (k1 (mfieldAddr E.P 44 v4_1 1) fun v11_2 => (k1 (xload E.P m 42 v11_2) fun v12_3 => (k2 (vcall E.P base m .len [42] [v12_3]) fun v13_4 m => (r18_L0 call fuel base (fun v m => some (.pan v, m)) (fun y8_12 m => (fVal y8_12 fun v => some (.ret v, m))) (fun y1_13 y3_14 y4_15 m => (k1 (mfieldAddr E.P 44 y4_15 2) fun v27_16 => (k1 (xload E.P m 24 v27_16) fun v28_17 => (kc (call base 36 [y1_13, v28_17] m) (fun v29_18 m => (kc (kv call base y3_14 [v29_18] m) (fun v30_19 m => (fVal v30_19 fun v => some (.ret v, m))) (fun v m => some (.pan v, m)))) (fun v m => some (.pan v, m)))))) fuel x1 x2 x3 v4_1 v12_3 v13_4 (.int .i64 0) m)))))
def keep18 : Keep := { region := fun i => ([[1, 2, 3, 4], [1, 2, 3, 4, 12, 13, 14], [1, 2, 3, 4, 12, 13, 14, 15], [1, 2, 3, 4, 10, 12, 13, 14], [1, 2, 3, 4, 12, 13, 14, 23], [8], [1, 2, 3, 4, 12, 13, 14], [8]] : List (List Nat))[i]?, exit := fun i => ([[1, 3, 4], [1, 2, 3, 4, 12, 13, 14]] : List (List Nat))[i]?, ret := some [8] }
noncomputable def r18_L0_R (call : CallF) (fuel base n : Nat) (vs : List Value) (m : M) (K : KT) : Res2 := match vs with
  | [x1, x2, x3, x4, x12, x13, x14] => r18_L0 call fuel base (fun v m => K (.pan v) { n := 31, l := [] } m) (fun y8 m => K .ret { n := 31, l := [(8, y8)] } m) (fun y1 y3 y4 m => K (.exit 0) { n := 31, l := [(1, y1), (3, y3), (4, y4)] } m) n x1 x2 x3 x4 x12 x13 x14 m
  | _ => none
noncomputable def lp18 (call : CallF) (fuel base : Nat) : Lp := lpsel [(0, fun T m K => kslots 31 [1, 2, 3, 4, 12, 13, 14] T fun vs => r18_L0_R call fuel base fuel vs m K)]
noncomputable def c18 : Code := Tryz.f18.body.getD .skip
theorem r18_L0_lk (call : CallF) (fuel base : Nat) : LoopsOk E call (lp18 call fuel base) fuel base 0 (loopB (blockB (seqR (seqL (seqR c18))))) = (And True (And (And True True) (And (And True (And True (And (And True True) True))) True))) := by kernel_rfl
theorem r18_L0_ok (call : CallF) (fuel base : Nat) : LpOk E call (lp18 call fuel base) fuel base 0 (loopB (blockB (seqR (seqL (seqR c18))))) := by
  refine loop_ok (kp := keep18) (hb := Eq.mpr (r18_L0_lk call fuel base) (And.intro trivial (And.intro (And.intro trivial trivial) (And.intro (And.intro trivial (And.intro trivial (And.intro (And.intro trivial trivial) trivial))) trivial)))) 31 [1, 2, 3, 4, 12, 13, 14] (fun n vs m K => r18_L0_R call fuel base n vs m K) ?_ ?_ (fun _ _ _ => rfl)
  · intro vs m K
    unfold r18_L0_R
    split <;> rfl
  · intro n vs m K hl
    match vs, hl with
    | [x1, x2, x3, x4, x12, x13, x14], _ => show _ = _; kernel_rfl
theorem r18_eq (call : CallF) (fuel base : Nat) (x0 : Value) (x1 : Value) (x2 : Value) (x3 : Value) (m : M) : kbody E call keep18 (lp18 call fuel base) base Tryz.f18 [x0, x1, x2, x3] m = r18 call fuel base x0 x1 x2 x3 m := by
  kernel_rfl
noncomputable def rf18 : RF := fun call fuel base args m => match args with
  | [x0, x1, x2, x3] => r18 call fuel base x0 x1 x2 x3 m
  | _ => none
theorem r18_lk (call : CallF) (fuel base : Nat) : LoopsOk E call (lp18 call fuel base) fuel base 0 c18 = (And True (And (And True (LpOk E call (lp18 call fuel base) fuel base 0 (loopB (blockB (seqR (seqL (seqR c18))))))) (And True True))) := by kernel_rfl
theorem r18_fn : E.P.funcs[18]? = some Tryz.f18 := by kernel_rfl
theorem r18_body : Tryz.f18.body = some c18 := by kernel_rfl
theorem rf18_ok : RFok E 18 rf18 := by
  show RFok' E 18 rf18
  refine ⟨Tryz.f18, r18_fn, fun call fuel base args m r _ h => ?_⟩
  unfold rf18 at h
  split at h
  · rw [← r18_eq] at h
    exact kbody_sound (c := c18) r18_body (Eq.mpr (r18_lk call fuel base) (And.intro trivial (And.intro (And.intro trivial (r18_L0_ok call fuel base)) (And.intro trivial trivial)))) h
  · simp at h
end Go.AM
namespace Go.AM
open Go Go.Proofs
noncomputable def r19_L0 (call : CallF) (fuel base : Nat) (kx0 : Value → M → Res2) (n : Nat) : Value → Value → Value → Value → M → Res2 :=
  Nat.rec (motive := fun _ => Value → Value → Value → Value → M → Res2) (fun _ _ _ _ _ => none)
    (fun _ ih x3 x11 x12 x13 m =>
      (k1 (mbin E .lss 3 x13 x12) fun v14_9 => (kb v14_9 (k1 (mindexAddr E.P 24 x11 x13) fun v16_10 => (k1 (xload E.P m 3 v16_10) fun v17_11 => (k1 (mindexAddr E.P 55 x3 x13) fun v21_12 => (ks (xstore E.P base m 50 v21_12 v17_11) fun m => (k1 (mbin E .add 3 x13 (.int .i64 1)) fun v22_13 => (ih x3 x11 x12 v22_13 m)))))) (kx0 x3 m)))) n
noncomputable def r19 (call : CallF) (fuel base : Nat) (x0 : Value) (m : M) : Res2 :=
  (k2 (xbox m x0) fun v1_1 m => (k1 (mfieldAddr E.P 26 v1_1 0) fun v6_2 => (k1 (xload E.P m 24 v6_2) fun v7_3 => (k2 (vcall E.P base m .len [24] [v7_3]) fun v8_4 m => (k2 (xmakeSlice E.P m 55 v8_4 v8_4) fun v9_5 m => (k1 (mfieldAddr E.P 26 v1_1 0) fun v10_6 => (k1 (xload E.P m 24 v10_6) fun v11_7 => (k2 (vcall E.P base m .len [24] [v11_7]) fun v12_8 m => (r19_L0 call fuel base (fun y3_14 m => (fVal y3_14 fun v => some (.ret v, m))) fuel v9_5 v11_7 v12_8 (.int .i64 0) m)))))))))
def keep19 : Keep := { region := fun i => ([[1], [1, 3], [3, 11, 12, 13], [3, 11, 12, 13, 14], [3, 4, 5, 11, 12, 13], [3, 11, 12, 13], [3, 11, 12, 13], [2]] : List (List Nat))[i]?, exit := fun i => ([[3], [3, 11, 12, 13]] : List (List Nat))[i]?, ret := some [2] }
noncomputable def r19_L0_R (call : CallF) (fuel base n : Nat) (vs : List Value) (m : M) (K : KT) : Res2 := match vs with
  | [x3, x11, x12, x13] => r19_L0 call fuel base (fun y3 m => K (.exit 0) { n := 24, l := [(3, y3)] } m) n x3 x11 x12 x13 m
  | _ => none
noncomputable def lp19 (call : CallF) (fuel base : Nat) : Lp := lpsel [(0, fun T m K => kslots 24 [3, 11, 12, 13] T fun vs => r19_L0_R call fuel base fuel vs m K)]
noncomputable def c19 : Code := Tryz.f19.body.getD .skip
theorem r19_L0_lk (call : CallF) (fuel base : Nat) : LoopsOk E call (lp19 call fuel base) fuel base 0 (loopB (blockB (seqR (seqL (seqR (seqR c19)))))) = (And True (And (And True True) (And (And True True) True))) := by kernel_rfl
theorem r19_L0_ok (call : CallF) (fuel base : Nat) : LpOk E call (lp19 call fuel base) fuel base 0 (loopB (blockB (seqR (seqL (seqR (seqR c19)))))) := by
  refine loop_ok (kp := keep19) (hb := Eq.mpr (r19_L0_lk call fuel base) (And.intro trivial (And.intro (And.intro trivial trivial) (And.intro (And.intro trivial trivial) trivial)))) 24 [3, 11, 12, 13] (fun n vs m K => r19_L0_R call fuel base n vs m K) ?_ ?_ (fun _ _ _ => rfl)
  · intro vs m K
    unfold r19_L0_R
    split <;> rfl
  · intro n vs m K hl
    match vs, hl with
    | [x3, x11, x12, x13], _ => show _ = _; kernel_rfl
theorem r19_eq (call : CallF) (fuel base : Nat) (x0 : Value) (m : M) : kbody E call keep19 (lp19 call fuel base) base Tryz.f19 [x0] m = r19 call fuel base x0 m := by
  kernel_rfl
noncomputable def rf19 : RF := fun call fuel base args m => match args with
  | [x0] => r19 call fuel base x0 m
  | _ => none
theorem r19_lk (call : CallF) (fuel base : Nat) : LoopsOk E call (lp19 call fuel base) fuel base 0 c19 = (And True (And True (And (And True (LpOk E call (lp19 call fuel base) fuel base 0 (loopB (blockB (seqR (seqL (seqR (seqR c19)))))))) (And True True)))) := by kernel_rfl
theorem r19_fn : E.P.funcs[19]? = some Tryz.f19 := by kernel_rfl
theorem r19_body : Tryz.f19.body = some c19 := by kernel_rfl
theorem rf19_ok : RFok E 19 rf19 := by
  show RFok' E 19 rf19
  refine ⟨Tryz.f19, r19_fn, fun call fuel base args m r _ h => ?_⟩
  unfold rf19 at h
  split at h
  · rw [← r19_eq] at h
    exact kbody_sound (c := c19) r19_body (Eq.mpr (r19_lk call fuel base) (And.intro trivial (And.intro trivial (And.intro (And.intro trivial (r19_L0_ok call fuel base)) (And.intro trivial trivial))))) h
  · simp at h
end Go.AM
namespace Go.AM
open Go Go.Proofs
noncomputable def r20_L2 (call : CallF) (fuel base : Nat) (kr : Value → M → Res2) (kx2 : Value → Value → M → Res2) (n : Nat) : Value → Value → Value → M → Res2 :=
  Nat.rec (motive := fun _ => Value → Value → Value → M → Res2) (fun _ _ _ _ => none)
    (fun _ ih x1 x5 x6 m =>
      (k1 (mbin E .lss 3 x6 x5) fun v34_13 => (kb v34_13 (k1 (mindexAddr E.P 23 x1 x5) fun v39_14 => (k1 (xload E.P m 34 v39_14) fun v40_15 => (k1 (mindexAddr E.P 23 x1 x6) fun v43_16 => (k1 (xload E.P m 34 v43_16) fun v44_17 => (kc (kB m (call m.length 39 [v40_15, v44_17] m)) (fun v45_18 m => (kb v45_18 (kr (.int .i64 2) m) (k1 (mbin E .add 3 x6 (.int .i64 1)) fun v36_19 => (ih x1 x5 v36_19 m)))) (fun _ _ => none)))))) (kx2 x1 x5 m)))) n
noncomputable def r20_L0 (call : CallF) (fuel base : Nat) (kp : Value → M → Res2) (kr : Value → M → Res2) (kx0 : M → Res2) (n : Nat) : Value → Value → M → Res2 :=
  Nat.rec (motive := fun _ => Value → Value → M → Res2) (fun _ _ _ => none)
    (fun _ ih x1 x5 m =>
      (k2 (vcall E.P base m .len [23] [x1]) fun v22_7 m => (k1 (mbin E .lss 3 x5 v22_7) fun v23_8 => (kb v23_8 (k1 (mindexAddr E.P 23 x1 x5) fun v28_9 => (k1 (xload E.P m 34 v28_9) fun v29_10 => (kc (call base 38 [v29_10] m) (fun v30_11 m => (k1 (mun .not v30_11) fun v31_12 => (kb v31_12 (kr (.int .i64 2) m) (r20_L2 call fuel base (fun y4_20 m => (kr y4_20 m)) (fun y1_21 y5_22 m => (k1 (mbin E .add 3 y5_22 (.int .i64 1)) fun v25_23 => (ih y1_21 v25_23 m))) fuel x1 x5 (.int .i64 0) m)))) (fun v m => kp v m)))) (kx0 m))))) n
noncomputable def r20 (call : CallF) (fuel base : Nat) (x0 : Value) (x1 : Value) (m : M) : Res2 :=
  (kc (call base 37 [x0] m) (fun v8_1 m => (k1 (mun .not v8_1) fun v9_2 => (kb v9_2 (fVal (.int .i64 2) fun v => some (.ret v, m)) (k2 (vcall E.P base m .len [23] [x1]) fun v12_3 m => (k1 (mbin E .lss 3 v12_3 (.int .i64 1)) fun v13_4 => (kb v13_4 (fVal (.int .i64 2) fun v => some (.ret v, m)) (k2 (vcall E.P base m .len [23] [x1]) fun v17_5 m => (k1 (mbin E .gtr 3 v17_5 (.int .i64 6)) fun v18_6 => (kb v18_6 (fVal (.int .i64 2) fun v => some (.ret v, m)) (r20_L0 call fuel base (fun v m => some (.pan v, m)) (fun y4_24 m => (fVal y4_24 fun v => some (.ret v, m))) (fun m => (fVal (.int .i64 0) fun v => some (.ret v, m))) fuel x1 (.int .i64 0) m)))))))))) (fun v m => some (.pan v, m)))
def keep20 : Keep := { region := fun i => ([[0, 1], [1, 19], [4], [1, 5], [1, 5, 23], [1, 5], [1, 5, 31], [4], [1, 5, 6], [1, 5, 6, 34], [1, 5, 6], [1, 5, 6, 45], [4], [4]] : List (List Nat))[i]?, exit := fun i => ([[], [1, 5], [1, 5], [1, 5, 6]] : List (List Nat))[i]?, ret := some [4] }
noncomputable def r20_L2_R (call : CallF) (fuel base n : Nat) (vs : List Value) (m : M) (K : KT) : Res2 := match vs with
  | [x1, x5, x6] => r20_L2 call fuel base (fun y4 m => K .ret { n := 46, l := [(4, y4)] } m) (fun y1 y5 m => K (.exit 2) { n := 46, l := [(1, y1), (5, y5)] } m) n x1 x5 x6 m
  | _ => none
noncomputable def r20_L0_R (call : CallF) (fuel base n : Nat) (vs : List Value) (m : M) (K : KT) : Res2 := match vs with
  | [x1, x5] => r20_L0 call fuel base (fun v m => K (.pan v) { n := 46, l := [] } m) (fun y4 m => K .ret { n := 46, l := [(4, y4)] } m) (fun m => K (.exit 0) { n := 46, l := [] } m) n x1 x5 m
  | _ => none
noncomputable def lp20 (call : CallF) (fuel base : Nat) : Lp := lpsel [(2, fun T m K => kslots 46 [1, 5, 6] T fun vs => r20_L2_R call fuel base fuel vs m K), (0, fun T m K => kslots 46 [1, 5] T fun vs => r20_L0_R call fuel base fuel vs m K)]
noncomputable def c20 : Code := Tryz.f20.body.getD .skip
theorem r20_L2_lk (call : CallF) (fuel base : Nat) : LoopsOk E call (lp20 call fuel base) fuel base 2 (loopB (blockB (seqR (seqR (blockB (seqL (seqR (loopB (blockB (seqR (seqL (seqR (seqR c20))))))))))))) = (And (And True (And True True)) (And (And True (And (And True True) True)) True)) := by kernel_rfl
theorem r20_L2_ok (call : CallF) (fuel base : Nat) : LpOk E call (lp20 call fuel base) fuel base 2 (loopB (blockB (seqR (seqR (blockB (seqL (seqR (loopB (blockB (seqR (seqL (seqR (seqR c20))))))))))))) := by
  refine loop_ok (kp := keep20) (hb := Eq.mpr (r20_L2_lk call fuel base) (And.intro (And.intro trivial (And.intro trivial trivial)) (And.intro (And.intro trivial (And.intro (And.intro trivial trivial) trivial)) trivial))) 46 [1, 5, 6] (fun n vs m K => r20_L2_R call fuel base n vs m K) ?_ ?_ (fun _ _ _ => rfl)
  · intro vs m K
    unfold r20_L2_R
    split <;> rfl
  · intro n vs m K hl
    match vs, hl with
    | [x1, x5, x6], _ => show _ = _; kernel_rfl
theorem r20_L0_lk (call : CallF) (fuel base : Nat) : LoopsOk E call (lp20 call fuel base) fuel base 0 (loopB (blockB (seqR (seqL (seqR (seqR c20)))))) = (And (And True (And True True)) (And (And (And True (And (And True True) True)) (And True (LpOk E call (lp20 call fuel base) fuel base 2 (loopB (blockB (seqR (seqR (blockB (seqL (seqR (loopB (blockB (seqR (seqL (seqR (seqR c20)))))))))))))))) True)) := by kernel_rfl
theorem r20_L0_ok (call : CallF) (fuel base : Nat) : LpOk E call (lp20 call fuel base) fuel base 0 (loopB (blockB (seqR (seqL (seqR (seqR c20)))))) := by
  refine loop_ok (kp := keep20) (hb := Eq.mpr (r20_L0_lk call fuel base) (And.intro (And.intro trivial (And.intro trivial trivial)) (And.intro (And.intro (And.intro trivial (And.intro (And.intro trivial trivial) trivial)) (And.intro trivial (r20_L2_ok call fuel base))) trivial))) 46 [1, 5] (fun n vs m K => r20_L0_R call fuel base n vs m K) ?_ ?_ (fun _ _ _ => rfl)
  · intro vs m K
    unfold r20_L0_R
    split <;> rfl
  · intro n vs m K hl
    match vs, hl with
    | [x1, x5], _ => show _ = _; kernel_rfl
theorem r20_eq (call : CallF) (fuel base : Nat) (x0 : Value) (x1 : Value) (m : M) : kbody E call keep20 (lp20 call fuel base) base Tryz.f20 [x0, x1] m = r20 call fuel base x0 x1 m := by
  kernel_rfl
noncomputable def rf20 : RF := fun call fuel base args m => match args with
  | [x0, x1] => r20 call fuel base x0 x1 m
  | _ => none
theorem r20_lk (call : CallF) (fuel base : Nat) : LoopsOk E call (lp20 call fuel base) fuel base 0 c20 = (And True (And (And True (And (And True True) True)) (And (And True (LpOk E call (lp20 call fuel base) fuel base 0 (loopB (blockB (seqR (seqL (seqR (seqR c20)))))))) (And True True)))) := by kernel_rfl
theorem r20_fn : E.P.funcs[20]? = some Tryz.f20 := by kernel_rfl
theorem r20_body : Tryz.f20.body = some c20 := by kernel_rfl
theorem rf20_ok : RFok E 20 rf20 := by
  show RFok' E 20 rf20
  refine ⟨Tryz.f20, r20_fn, fun call fuel base args m r _ h => ?_⟩
  unfold rf20 at h
  split at h
  · rw [← r20_eq] at h
    exact kbody_sound (c := c20) r20_body (Eq.mpr (r20_lk call fuel base) (And.intro trivial (And.intro (And.intro trivial (And.intro (And.intro trivial trivial) trivial)) (And.intro (And.intro trivial (r20_L0_ok call fuel base)) (And.intro trivial trivial))))) h
  · simp at h
end Go.AM
namespace Go.AM
open Go Go.Proofs
noncomputable def r21_L2 (call : CallF) (fuel base : Nat) (kx2 : Value → Value → Value → M → Res2) (n : Nat) : Value → Value → Value → Value → M → Res2 :=
  Nat.rec (motive := fun _ => Value → Value → Value → Value → M → Res2) (fun _ _ _ _ _ => none)
    (fun _ ih x0 x3 x4 x5 m =>
      (k1 (mindexAddr E.P 22 x0 x4) fun v15_3 => (k1 (xload E.P m 9 v15_3) fun v16_4 => (k2 (vcall E.P base m .len [9] [v16_4]) fun v17_5 m => (k1 (mbin E .lss 3 x5 v17_5) fun v18_6 => (kb v18_6 (k1 (mindexAddr E.P 22 x0 x4) fun v23_7 => (k1 (xload E.P m 9 v23_7) fun v24_8 => (k1 (mindex E.P 9 v24_8 x5) fun v26_9 => (k1 (mbin E .eql 5 v26_9 (.int .u8 35)) fun v27_10 => (kb v27_10 (k1 (mbuild E.P 68 [(0, x5), (1, x4)]) fun v31_11 => (k2 (xbuildSlice E.P m 33 1 [(0, v31_11)]) fun v32_12 m => (k2 (vcall E.P base m .append [33, 33] [x3, v32_12]) fun v33_13 m => (k1 (mbin E .add 3 x5 (.int .i64 1)) fun v20_14 => (ih x0 v33_13 x4 v20_14 m))))) (k1 (mbin E .add 3 x5 (.int .i64 1)) fun v20_15 => (ih x0 x3 x4 v20_15 m))))))) (kx2 x0 x3 x4 m))))))) n
noncomputable def r21_L0 (call : CallF) (fuel base : Nat) (kx0 : Value → M → Res2) (n : Nat) : Value → Value → Value → M → Res2 :=
  Nat.rec (motive := fun _ => Value → Value → Value → M → Res2) (fun _ _ _ _ => none)
    (fun _ ih x0 x3 x4 m =>
      (k2 (vcall E.P base m .len [22] [x0]) fun v8_1 m => (k1 (mbin E .lss 3 x4 v8_1) fun v9_2 => (kb v9_2 (r21_L2 call fuel base (fun y0_16 y3_17 y4_18 m => (k1 (mbin E .add 3 y4_18 (.int .i64 1)) fun v11_19 => (ih y0_16 y3_17 v11_19 m))) fuel x0 x3 x4 (.int .i64 0) m) (kx0 x3 m))))) n
noncomputable def r21 (call : CallF) (fuel base : Nat) (x0 : Value) (m : M) : Res2 :=
  (r21_L0 call fuel base (fun y3_20 m => (fVal y3_20 fun v => some (.ret v, m))) fuel x0 (.slice none 0 0) (.int .i64 0) m)
def keep21 : Keep := { region := fun i => ([[0], [0, 3], [0, 3, 4], [0, 3, 4, 9], [0, 3, 4], [0, 3, 4, 5], [0, 3, 4, 5, 18], [0, 3, 4, 5], [0, 3, 4, 5, 27], [0, 3, 4, 5], [2]] : List (List Nat))[i]?, exit := fun i => ([[3], [0, 3, 4], [0, 3, 4], [0, 3, 4, 5]] : List (List Nat))[i]?, ret := some [2] }
noncomputable def r21_L2_R (call : CallF) (fuel base n : Nat) (vs : List Value) (m : M) (K : KT) : Res2 := match vs with
  | [x0, x3, x4, x5] => r21_L2 call fuel base (fun y0 y3 y4 m => K (.exit 2) { n := 35, l := [(0, y0), (3, y3), (4, y4)] } m) n x0 x3 x4 x5 m
  | _ => none
noncomputable def r21_L0_R (call : CallF) (fuel base n : Nat) (vs : List Value) (m : M) (K : KT) : Res2 := match vs with
  | [x0, x3, x4] => r21_L0 call fuel base (fun y3 m => K (.exit 0) { n := 35, l := [(3, y3)] } m) n x0 x3 x4 m
  | _ => none
noncomputable def lp21 (call : CallF) (fuel base : Nat) : Lp := lpsel [(2, fun T m K => kslots 35 [0, 3, 4, 5] T fun vs => r21_L2_R call fuel base fuel vs m K), (0, fun T m K => kslots 35 [0, 3, 4] T fun vs => r21_L0_R call fuel base fuel vs m K)]
noncomputable def c21 : Code := Tryz.f21.body.getD .skip
theorem r21_L2_lk (call : CallF) (fuel base : Nat) : LoopsOk E call (lp21 call fuel base) fuel base 2 (loopB (blockB (seqR (blockB (seqL (seqR (loopB (blockB (seqR (seqL (seqR (seqR c21)))))))))))) = (And (And True (And True True)) (And (And True (And True True)) True)) := by kernel_rfl
theorem r21_L2_ok (call : CallF) (fuel base : Nat) : LpOk E call (lp21 call fuel base) fuel base 2 (loopB (blockB (seqR (blockB (seqL (seqR (loopB (blockB (seqR (seqL (seqR (seqR c21)))))))))))) := by
  refine loop_ok (kp := keep21) (hb := Eq.mpr (r21_L2_lk call fuel base) (And.intro (And.intro trivial (And.intro trivial trivial)) (And.intro (And.intro trivial (And.intro trivial trivial)) trivial))) 35 [0, 3, 4, 5] (fun n vs m K => r21_L2_R call fuel base n vs m K) ?_ ?_ (fun _ _ _ => rfl)
  · intro vs m K
    unfold r21_L2_R
    split <;> rfl
  · intro n vs m K hl
    match vs, hl with
    | [x0, x3, x4, x5], _ => show _ = _; kernel_rfl
theorem r21_L0_lk (call : CallF) (fuel base : Nat) : LoopsOk E call (lp21 call fuel base) fuel base 0 (loopB (blockB (seqR (seqL (seqR (seqR c21)))))) = (And (And True (And True True)) (And (And True (LpOk E call (lp21 call fuel base) fuel base 2 (loopB (blockB (seqR (blockB (seqL (seqR (loopB (blockB (seqR (seqL (seqR (seqR c21)))))))))))))) True)) := by kernel_rfl
theorem r21_L0_ok (call : CallF) (fuel base : Nat) : LpOk E call (lp21 call fuel base) fuel base 0 (loopB (blockB (seqR (seqL (seqR (seqR c21)))))) := by
  refine loop_ok (kp := keep21) (hb := Eq.mpr (r21_L0_lk call fuel base) (And.intro (And.intro trivial (And.intro trivial trivial)) (And.intro (And.intro trivial (r21_L2_ok call fuel base)) trivial))) 35 [0, 3, 4] (fun n vs m K => r21_L0_R call fuel base n vs m K) ?_ ?_ (fun _ _ _ => rfl)
  · intro vs m K
    unfold r21_L0_R
    split <;> rfl
  · intro n vs m K hl
    match vs, hl with
    | [x0, x3, x4], _ => show _ = _; kernel_rfl
theorem r21_eq (call : CallF) (fuel base : Nat) (x0 : Value) (m : M) : kbody E call keep21 (lp21 call fuel base) base Tryz.f21 [x0] m = r21 call fuel base x0 m := by
  kernel_rfl
noncomputable def rf21 : RF := fun call fuel base args m => match args with
  | [x0] => r21 call fuel base x0 m
  | _ => none
theorem r21_lk (call : CallF) (fuel base : Nat) : LoopsOk E call (lp21 call fuel base) fuel base 0 c21 = (And True (And True (And (And True (LpOk E call (lp21 call fuel base) fuel base 0 (loopB (blockB (seqR (seqL (seqR (seqR c21)))))))) (And True True)))) := by kernel_rfl
theorem r21_fn : E.P.funcs[21]? = some Tryz.f21 := by kernel_rfl
theorem r21_body : Tryz.f21.body = some c21 := by kernel_rfl
theorem rf21_ok : RFok E 21 rf21 := by
  show RFok' E 21 rf21
  refine ⟨Tryz.f21, r21_fn, fun call fuel base args m r _ h => ?_⟩
  unfold rf21 at h
  split at h
  · rw [← r21_eq] at h
    exact kbody_sound (c := c21) r21_body (Eq.mpr (r21_lk call fuel base) (And.intro trivial (And.intro trivial (And.intro (And.intro trivial (r21_L0_ok call fuel base)) (And.intro trivial trivial))))) h
  · simp at h
end Go.AM
namespace Go.AM
open Go Go.Proofs
noncomputable def r22_L0 (call : CallF) (fuel base : Nat) (kr : Value → M → Res2) (kx0 : M → Res2) (n : Nat) : Value → Value → M → Res2 :=
  Nat.rec (motive := fun _ => Value → Value → M → Res2) (fun _ _ _ => none)
    (fun _ ih x3 x5 m =>
      (k1 (mfieldAddr E.P 26 x3 0) fun v23_13 => (k1 (xload E.P m 24 v23_13) fun v24_14 => (k2 (vcall E.P base m .len [24] [v24_14]) fun v25_15 m => (k1 (mbin E .lss 3 x5 v25_15) fun v26_16 => (kb v26_16 (k1 (mfieldAddr E.P 26 x3 0) fun v29_17 => (k1 (xload E.P m 24 v29_17) fun v30_18 => (k1 (mindexAddr E.P 24 v30_18 x5) fun v32_19 => (k1 (xload E.P m 3 v32_19) fun v33_20 => (k1 (mbin E .lss 3 v33_20 (.int .i64 (-1099511627776))) fun v34_21 => (kb v34_21 (kr (.bool false) m) (k1 (mfieldAddr E.P 26 x3 0) fun v36_22 => (k1 (xload E.P m 24 v36_22) fun v37_23 => (k1 (mindexAddr E.P 24 v37_23 x5) fun v39_24 => (k1 (xload E.P m 3 v39_24) fun v40_25 => (k1 (mbin E .gtr 3 v40_25 (.int .i64 1099511627776)) fun v41_26 => (kb v41_26 (kr (.bool false) m) (k1 (mbin E .add 3 x5 (.int .i64 1)) fun v28_27 => (ih x3 v28_27 m)))))))))))))) (kx0 m))))))) n
noncomputable def r22 (call : CallF) (fuel base : Nat) (x0 : Value) (x1 : Value) (m : M) : Res2 :=
  (k2 (xbox m x1) fun v3_1 m => (k1 (mfieldAddr E.P 26 v3_1 0) fun v6_2 => (k1 (xload E.P m 24 v6_2) fun v7_3 => (k2 (vcall E.P base m .len [24] [v7_3]) fun v8_4 m => (k2 (vcall E.P base m .len [33] [x0]) fun v10_5 m => (k1 (mbin E .neq 3 v8_4 v10_5) fun v11_6 => (kb v11_6 (fVal (.bool false) fun v => some (.ret v, m)) (k1 (mfieldAddr E.P 26 v3_1 1) fun v13_7 => (k1 (xload E.P m 3 v13_7) fun v14_8 => (k1 (mbin E .lss 3 v14_8 (.int .i64 1)) fun v15_9 => (kb v15_9 (fVal (.bool false) fun v => some (.ret v, m)) (k1 (mfieldAddr E.P 26 v3_1 1) fun v18_10 => (k1 (xload E.P m 3 v18_10) fun v19_11 => (k1 (mbin E .gtr 3 v19_11 (.int .i64 1099511627776)) fun v20_12 => (kb v20_12 (fVal (.bool false) fun v => some (.ret v, m)) (r22_L0 call fuel base (fun y4_28 m => (fVal y4_28 fun v => some (.ret v, m))) (fun m => (fVal (.bool true) fun v => some (.ret v, m))) fuel v3_1 (.int .i64 0) m))))))))))))))))
def keep22 : Keep := { region := fun i => ([[0, 3], [3, 21], [4], [3, 5], [3, 5, 26], [3, 5], [3, 5, 42], [4], [4]] : List (List Nat))[i]?, exit := fun i => ([[], [3, 5]] : List (List Nat))[i]?, ret := some [4] }
noncomputable def r22_L0_R (call : CallF) (fuel base n : Nat) (vs : List Value) (m : M) (K : KT) : Res2 := match vs with
  | [x3, x5] => r22_L0 call fuel base (fun y4 m => K .ret { n := 43, l := [(4, y4)] } m) (fun m => K (.exit 0) { n := 43, l := [] } m) n x3 x5 m
  | _ => none
noncomputable def lp22 (call : CallF) (fuel base : Nat) : Lp := lpsel [(0, fun T m K => kslots 43 [3, 5] T fun vs => r22_L0_R call fuel base fuel vs m K)]
noncomputable def c22 : Code := Tryz.f22.body.getD .skip
theorem r22_L0_lk (call : CallF) (fuel base : Nat) : LoopsOk E call (lp22 call fuel base) fuel base 0 (loopB (blockB (seqR (seqL (seqR (seqR c22)))))) = (And (And True (And True True)) (And (And True (And (And True True) True)) True)) := by kernel_rfl
theorem r22_L0_ok (call : CallF) (fuel base : Nat) : LpOk E call (lp22 call fuel base) fuel base 0 (loopB (blockB (seqR (seqL (seqR (seqR c22)))))) := by
  refine loop_ok (kp := keep22) (hb := Eq.mpr (r22_L0_lk call fuel base) (And.intro (And.intro trivial (And.intro trivial trivial)) (And.intro (And.intro trivial (And.intro (And.intro trivial trivial) trivial)) trivial))) 43 [3, 5] (fun n vs m K => r22_L0_R call fuel base n vs m K) ?_ ?_ (fun _ _ _ => rfl)
  · intro vs m K
    unfold r22_L0_R
    split <;> rfl
  · intro n vs m K hl
    match vs, hl with
    | [x3, x5], _ => show _ = _; kernel_rfl
theorem r22_eq (call : CallF) (fuel base : Nat) (x0 : Value) (x1 : Value) (m : M) : kbody E call keep22 (lp22 call fuel base) base Tryz.f22 [x0, x1] m = r22 call fuel base x0 x1 m := by
  kernel_rfl
noncomputable def rf22 : RF := fun call fuel base args m => match args with
  | [x0, x1] => r22 call fuel base x0 x1 m
  | _ => none
theorem r22_lk (call : CallF) (fuel base : Nat) : LoopsOk E call (lp22 call fuel base) fuel base 0 c22 = (And True (And (And True (And (And True True) True)) (And (And True (LpOk E call (lp22 call fuel base) fuel base 0 (loopB (blockB (seqR (seqL (seqR (seqR c22)))))))) (And True True)))) := by kernel_rfl
theorem r22_fn : E.P.funcs[22]? = some Tryz.f22 := by kernel_rfl
theorem r22_body : Tryz.f22.body = some c22 := by kernel_rfl
theorem rf22_ok : RFok E 22 rf22 := by
  show RFok' E 22 rf22
  refine ⟨Tryz.f22, r22_fn, fun call fuel base args m r _ h => ?_⟩
  unfold rf22 at h
  split at h
  · rw [← r22_eq] at h
    exact kbody_sound (c := c22) r22_body (Eq.mpr (r22_lk call fuel base) (And.intro trivial (And.intro (And.intro trivial (And.intro (And.intro trivial trivial) trivial)) (And.intro (And.intro trivial (r22_L0_ok call fuel base)) (And.intro trivial trivial))))) h
  · simp at h
end Go.AM
namespace Go.AM
open Go Go.Proofs
noncomputable def r23_L6 (call : CallF) (fuel base : Nat) (kx6 : Value → Value → Value → Value → Value → Value → Value → Value → M → Res2) (n : Nat) : Value → Value → Value → Value → Value → Value → Value → Value → Value → Value → M → Res2 :=
  Nat.rec (motive := fun _ => Value → Value → Value → Value → Value → Value → Value → Value → Value → Value → M → Res2) (fun _ _ _ _ _ _ _ _ _ _ _ => none)
    (fun _ ih x0 x1 x5 x6 x7 x8 x9 x10 x11 x12 m =>
      (k2 (vcall E.P base m .len [33] [x10]) fun v42_13 m => (k1 (mbin E .lss 3 x12 v42_13) fun v43_14 => (kb v43_14 (kb x11 (k1 (mindexAddr E.P 33 x10 x12) fun v51_15 => (k1 (mfieldAddr E.P 68 v51_15 0) fun v52_16 => (k1 (xload E.P m 3 v52_16) fun v53_17 => (k1 (mindexAddr E.P 33 x10 x12) fun v56_18 => (k1 (mfieldAddr E.P 68 v56_18 1) fun v57_19 => (k1 (xload E.P m 3 v57_19) fun v58_20 => (kc (kB m (call m.length 40 [x0, v53_17, v58_20] m)) (fun v59_21 m => (k1 (mbin E .add 3 x12 (.int .i64 1)) fun v45_22 => (ih x0 x1 x5 x6 x7 x8 x9 x10 v59_21 v45_22 m))) (fun _ _ => none)))))))) (k1 (mbin E .add 3 x12 (.int .i64 1)) fun v45_23 => (ih x0 x1 x5 x6 x7 x8 x9 x10 (.bool false) v45_23 m))) (kx6 x0 x1 x5 x6 x7 x8 x9 x11 m))))) n
noncomputable def r23_L4 (call : CallF) (fuel base : Nat) (kp : Value → M → Res2) (kx4 : Value → Value → Value → Value → Value → M → Res2) (n : Nat) : Value → Value → Value → Value → Value → Value → M → Res2 :=
  Nat.rec (motive := fun _ => Value → Value → Value → Value → Value → Value → M → Res2) (fun _ _ _ _ _ _ _ => none)
    (fun _ ih x0 x1 x5 x6 x7 x8 m =>
      (k2 (vcall E.P base m .len [23] [x1]) fun v29_7 m => (k1 (mbin E .lss 3 x8 v29_7) fun v30_8 => (kb v30_8 (k1 (mbuild E.P 64 [(0, x8), (1, x7), (2, x6)]) fun v36_9 => (k2 (xalloc E.P m 64) fun v9_10 m => (ks (xstore E.P base m 64 v9_10 v36_9) fun m => (k1 (xload E.P m 64 v9_10) fun v38_11 => (kc (call base 25 [x1, v38_11] m) (fun v39_12 m => (r23_L6 call fuel base (fun y0_24 y1_25 y5_26 y6_27 y7_28 y8_29 y9_30 y11_31 m => (kb y11_31 (k1 (xload E.P m 64 y9_30) fun v63_32 => (k2 (xbuildSlice E.P m 45 1 [(0, v63_32)]) fun v64_33 m => (k2 (vcall E.P base m .append [45, 45] [y5_26, v64_33]) fun v65_34 m => (k1 (mbin E .add 3 y8_29 (.int .i64 1)) fun v32_35 => (ih y0_24 y1_25 v65_34 y6_27 y7_28 v32_35 m))))) (k1 (mbin E .add 3 y8_29 (.int .i64 1)) fun v32_36 => (ih y0_24 y1_25 y5_26 y6_27 y7_28 v32_36 m)))) fuel x0 x1 x5 x6 x7 x8 v9_10 v39_12 (.bool true) (.int .i64 0) m)) (fun v m => kp v m)))))) (kx4 x0 x1 x5 x6 x7 m))))) n
noncomputable def r23_L2 (call : CallF) (fuel base : Nat) (kp : Value → M → Res2) (kx2 : Value → Value → Value → Value → M → Res2) (n : Nat) : Value → Value → Value → Value → Value → M → Res2 :=
  Nat.rec (motive := fun _ => Value → Value → Value → Value → Value → M → Res2) (fun _ _ _ _ _ _ => none)
    (fun _ ih x0 x1 x5 x6 x7 m =>
      (k1 (mindexAddr E.P 22 x0 (.int .i64 0)) fun v21_3 => (k1 (xload E.P m 9 v21_3) fun v22_4 => (k2 (vcall E.P base m .len [9] [v22_4]) fun v23_5 m => (k1 (mbin E .lss 3 x7 v23_5) fun v24_6 => (kb v24_6 (r23_L4 call fuel base (fun v m => kp v m) (fun y0_37 y1_38 y5_39 y6_40 y7_41 m => (k1 (mbin E .add 3 y7_41 (.int .i64 1)) fun v26_42 => (ih y0_37 y1_38 y5_39 y6_40 v26_42 m))) fuel x0 x1 x5 x6 x7 (.int .i64 0) m) (kx2 x0 x1 x5 x6 m))))))) n
noncomputable def r23_L0 (call : CallF) (fuel base : Nat) (kp : Value → M → Res2) (kx0 : Value → M → Res2) (n : Nat) : Value → Value → Value → Value → M → Res2 :=
  Nat.rec (motive := fun _ => Value → Value → Value → Value → M → Res2) (fun _ _ _ _ _ => none)
    (fun _ ih x0 x1 x5 x6 m =>
      (k2 (vcall E.P base m .len [22] [x0]) fun v15_1 m => (k1 (mbin E .lss 3 x6 v15_1) fun v16_2 => (kb v16_2 (r23_L2 call fuel base (fun v m => kp v m) (fun y0_43 y1_44 y5_45 y6_46 m => (k1 (mbin E .add 3 y6_46 (.int .i64 1)) fun v18_47 => (ih y0_43 y1_44 y5_45 v18_47 m))) fuel x0 x1 x5 x6 (.int .i64 0) m) (kx0 x5 m))))) n
noncomputable def r23 (call : CallF) (fuel base : Nat) (x0 : Value) (x1 : Value) (m : M) : Res2 :=
  (r23_L0 call fuel base (fun v m => some (.pan v, m)) (fun y5_48 m => (fVal y5_48 fun v => some (.ret v, m))) fuel x0 x1 (.slice none 0 0) (.int .i64 0) m)
def keep23 : Keep := { region := fun i => ([[0, 1], [0, 1, 5], [0, 1, 5, 6], [0, 1, 5, 6, 16], [0, 1, 5, 6], [0, 1, 5, 6, 7], [0, 1, 5, 6, 7, 24], [0, 1, 5, 6, 7], [0, 1, 5, 6, 7, 8], [0, 1, 5, 6, 7, 8, 30], [0, 1, 5, 6, 7, 8], [0, 1, 5, 6, 7, 8, 9], [0, 1, 5, 6, 7, 8, 9, 10], [0, 1, 5, 6, 7, 8, 9, 10, 11], [0, 1, 5, 6, 7, 8, 9, 10, 11, 12], [0, 1, 5, 6, 7, 8, 9, 10, 11, 12, 43], [0, 1, 5, 6, 7, 8, 9, 10, 11, 12], [0, 1, 5, 6, 7, 8, 9, 10, 11, 12], [0, 1, 5, 6, 7, 8, 9, 61], [0, 1, 5, 6, 7, 8], [4]] : List (List Nat))[i]?, exit := fun i => ([[5], [0, 1, 5, 6], [0, 1, 5, 6], [0, 1, 5, 6, 7], [0, 1, 5, 6, 7], [0, 1, 5, 6, 7, 8], [0, 1, 5, 6, 7, 8, 9, 11], [0, 1, 5, 6, 7, 8, 9, 10, 11, 12]] : List (List Nat))[i]?, ret := some [4] }
noncomputable def r23_L6_R (call : CallF) (fuel base n : Nat) (vs : List Value) (m : M) (K : KT) : Res2 := match vs with
  | [x0, x1, x5, x6, x7, x8, x9, x10, x11, x12] => r23_L6 call fuel base (fun y0 y1 y5 y6 y7 y8 y9 y11 m => K (.exit 6) { n := 67, l := [(0, y0), (1, y1), (5, y5), (6, y6), (7, y7), (8, y8), (9, y9), (11, y11)] } m) n x0 x1 x5 x6 x7 x8 x9 x10 x11 x12 m
  | _ => none
noncomputable def r23_L4_R (call : CallF) (fuel base n : Nat) (vs : List Value) (m : M) (K : KT) : Res2 := match vs with
  | [x0, x1, x5, x6, x7, x8] => r23_L4 call fuel base (fun v m => K (.pan v) { n := 67, l := [] } m) (fun y0 y1 y5 y6 y7 m => K (.exit 4) { n := 67, l := [(0, y0), (1, y1), (5, y5), (6, y6), (7, y7)] } m) n x0 x1 x5 x6 x7 x8 m
  | _ => none
noncomputable def r23_L2_R (call : CallF) (fuel base n : Nat) (vs : List Value) (m : M) (K : KT) : Res2 := match vs with
  | [x0, x1, x5, x6, x7] => r23_L2 call fuel base (fun v m => K (.pan v) { n := 67, l := [] } m) (fun y0 y1 y5 y6 m => K (.exit 2) { n := 67, l := [(0, y0), (1, y1), (5, y5), (6, y6)] } m) n x0 x1 x5 x6 x7 m
  | _ => none
noncomputable def r23_L0_R (call : CallF) (fuel base n : Nat) (vs : List Value) (m : M) (K : KT) : Res2 := match vs with
  | [x0, x1, x5, x6] => r23_L0 call fuel base (fun v m => K (.pan v) { n := 67, l := [] } m) (fun y5 m => K (.exit 0) { n := 67, l := [(5, y5)] } m) n x0 x1 x5 x6 m
  | _ => none
noncomputable def lp23 (call : CallF) (fuel base : Nat) : Lp := lpsel [(6, fun T m K => kslots 67 [0, 1, 5, 6, 7, 8, 9, 10, 11, 12] T fun vs => r23_L6_R call fuel base fuel vs m K), (4, fun T m K => kslots 67 [0, 1, 5, 6, 7, 8] T fun vs => r23_L4_R call fuel base fuel vs m K), (2, fun T m K => kslots 67 [0, 1, 5, 6, 7] T fun vs => r23_L2_R call fuel base fuel vs m K), (0, fun T m K => kslots 67 [0, 1, 5, 6] T fun vs => r23_L0_R call fuel base fuel vs m K)]
noncomputable def c23 : Code := Tryz.f23.body.getD .skip
theorem r23_L6_lk (call : CallF) (fuel base : Nat) : LoopsOk E call (lp23 call fuel base) fuel base 6 (loopB (blockB (seqR (seqL (seqR (seqR (seqR (blockB (seqL (seqR (loopB (blockB (seqR (blockB (seqL (seqR (loopB (blockB (seqR (blockB (seqL (seqR (loopB (blockB (seqR (seqL (seqR (seqR c23)))))))))))))))))))))))))))) = (And (And True (And True True)) (And True True)) := by kernel_rfl
theorem r23_L6_ok (call : CallF) (fuel base : Nat) : LpOk E call (lp23 call fuel base) fuel base 6 (loopB (blockB (seqR (seqL (seqR (seqR (seqR (blockB (seqL (seqR (loopB (blockB (seqR (blockB (seqL (seqR (loopB (blockB (seqR (blockB (seqL (seqR (loopB (blockB (seqR (seqL (seqR (seqR c23)))))))))))))))))))))))))))) := by
  refine loop_ok (kp := keep23) (hb := Eq.mpr (r23_L6_lk call fuel base) (And.intro (And.intro trivial (And.intro trivial trivial)) (And.intro trivial trivial))) 67 [0, 1, 5, 6, 7, 8, 9, 10, 11, 12] (fun n vs m K => r23_L6_R call fuel base n vs m K) ?_ ?_ (fun _ _ _ => rfl)
  · intro vs m K
    unfold r23_L6_R
    split <;> rfl
  · intro n vs m K hl
    match vs, hl with
    | [x0, x1, x5, x6, x7, x8, x9, x10, x11, x12], _ => show _ = _; kernel_rfl
theorem r23_L4_lk (call : CallF) (fuel base : Nat) : LoopsOk E call (lp23 call fuel base) fuel base 4 (loopB (blockB (seqR (blockB (seqL (seqR (loopB (blockB (seqR (blockB (seqL (seqR (loopB (blockB (seqR (seqL (seqR (seqR c23)))))))))))))))))) = (And (And True (And True True)) (And (And True (And True (And True (And (And True (LpOk E call (lp23 call fuel base) fuel base 6 (loopB (blockB (seqR (seqL (seqR (seqR (seqR (blockB (seqL (seqR (loopB (blockB (seqR (blockB (seqL (seqR (loopB (blockB (seqR (blockB (seqL (seqR (loopB (blockB (seqR (seqL (seqR (seqR c23)))))))))))))))))))))))))))))) (And True (And True True)))))) True)) := by kernel_rfl
theorem r23_L4_ok (call : CallF) (fuel base : Nat) : LpOk E call (lp23 call fuel base) fuel base 4 (loopB (blockB (seqR (blockB (seqL (seqR (loopB (blockB (seqR (blockB (seqL (seqR (loopB (blockB (seqR (seqL (seqR (seqR c23)))))))))))))))))) := by
  refine loop_ok (kp := keep23) (hb := Eq.mpr (r23_L4_lk call fuel base) (And.intro (And.intro trivial (And.intro trivial trivial)) (And.intro (And.intro trivial (And.intro trivial (And.intro trivial (And.intro (And.intro trivial (r23_L6_ok call fuel base)) (And.intro trivial (And.intro trivial trivial)))))) trivial))) 67 [0, 1, 5, 6, 7, 8] (fun n vs m K => r23_L4_R call fuel base n vs m K) ?_ ?_ (fun _ _ _ => rfl)
  · intro vs m K
    unfold r23_L4_R
    split <;> rfl
  · intro n vs m K hl
    match vs, hl with
    | [x0, x1, x5, x6, x7, x8], _ => show _ = _; kernel_rfl
theorem r23_L2_lk (call : CallF) (fuel base : Nat) : LoopsOk E call (lp23 call fuel base) fuel base 2 (loopB (blockB (seqR (blockB (seqL (seqR (loopB (blockB (seqR (seqL (seqR (seqR c23)))))))))))) = (And (And True (And True True)) (And (And True (LpOk E call (lp23 call fuel base) fuel base 4 (loopB (blockB (seqR (blockB (seqL (seqR (loopB (blockB (seqR (blockB (seqL (seqR (loopB (blockB (seqR (seqL (seqR (seqR c23)))))))))))))))))))) True)) := by kernel_rfl
theorem r23_L2_ok (call : CallF) (fuel base : Nat) : LpOk E call (lp23 call fuel base) fuel base 2 (loopB (blockB (seqR (blockB (seqL (seqR (loopB (blockB (seqR (seqL (seqR (seqR c23)))))))))))) := by
  refine loop_ok (kp := keep23) (hb := Eq.mpr (r23_L2_lk call fuel base) (And.intro (And.intro trivial (And.intro trivial trivial)) (And.intro (And.intro trivial (r23_L4_ok call fuel base)) trivial))) 67 [0, 1, 5, 6, 7] (fun n vs m K => r23_L2_R call fuel base n vs m K) ?_ ?_ (fun _ _ _ => rfl)
  · intro vs m K
    unfold r23_L2_R
    split <;> rfl
  · intro n vs m K hl
    match vs, hl with
    | [x0, x1, x5, x6, x7], _ => show _ = _; kernel_rfl
theorem r23_L0_lk (call : CallF) (fuel base : Nat) : LoopsOk E call (lp23 call fuel base) fuel base 0 (loopB (blockB (seqR (seqL (seqR (seqR c23)))))) = (And (And True (And True True)) (And (And True (LpOk E call (lp23 call fuel base) fuel base 2 (loopB (blockB (seqR (blockB (seqL (seqR (loopB (blockB (seqR (seqL (seqR (seqR c23)))))))))))))) True)) := by kernel_rfl
theorem r23_L0_ok (call : CallF) (fuel base : Nat) : LpOk E call (lp23 call fuel base) fuel base 0 (loopB (blockB (seqR (seqL (seqR (seqR c23)))))) := by
  refine loop_ok (kp := keep23) (hb := Eq.mpr (r23_L0_lk call fuel base) (And.intro (And.intro trivial (And.intro trivial trivial)) (And.intro (And.intro trivial (r23_L2_ok call fuel base)) trivial))) 67 [0, 1, 5, 6] (fun n vs m K => r23_L0_R call fuel base n vs m K) ?_ ?_ (fun _ _ _ => rfl)
  · intro vs m K
    unfold r23_L0_R
    split <;> rfl
  · intro n vs m K hl
    match vs, hl with
    | [x0, x1, x5, x6], _ => show _ = _; kernel_rfl
theorem r23_eq (call : CallF) (fuel base : Nat) (x0 : Value) (x1 : Value) (m : M) : kbody E call keep23 (lp23 call fuel base) base Tryz.f23 [x0, x1] m = r23 call fuel base x0 x1 m := by
  kernel_rfl
noncomputable def rf23 : RF := fun call fuel base args m => match args with
  | [x0, x1] => r23 call fuel base x0 x1 m
  | _ => none
theorem r23_lk (call : CallF) (fuel base : Nat) : LoopsOk E call (lp23 call fuel base) fuel base 0 c23 = (And True (And True (And (And True (LpOk E call (lp23 call fuel base) fuel base 0 (loopB (blockB (seqR (seqL (seqR (seqR c23)))))))) (And True True)))) := by kernel_rfl
theorem r23_fn : E.P.funcs[23]? = some Tryz.f23 := by kernel_rfl
theorem r23_body : Tryz.f23.body = some c23 := by kernel_rfl
theorem rf23_ok : RFok E 23 rf23 := by
  show RFok' E 23 rf23
  refine ⟨Tryz.f23, r23_fn, fun call fuel base args m r _ h => ?_⟩
  unfold rf23 at h
  split at h
  · rw [← r23_eq] at h
    exact kbody_sound (c := c23) r23_body (Eq.mpr (r23_lk call fuel base) (And.intro trivial (And.intro trivial (And.intro (And.intro trivial (r23_L0_ok call fuel base)) (And.intro trivial trivial))))) h
  · simp at h
end Go.AM
namespace Go.AM
open Go Go.Proofs
noncomputable def r24_L2 (call : CallF) (fuel base : Nat) (kx2 : Value → Value → Value → Value → Value → M → Res2) (n : Nat) : Value → Value → Value → Value → Value → Value → M → Res2 :=
  Nat.rec (motive := fun _ => Value → Value → Value → Value → Value → Value → M → Res2) (fun _ _ _ _ _ _ _ => none)
    (fun _ ih x0 x1 x2 x7 x8 x9 m =>
      (k2 (vcall E.P base m .len [33] [x0]) fun v18_3 m => (k1 (mbin E .lss 3 x9 v18_3) fun v19_4 => (kb v19_4 (k1 (mindexAddr E.P 33 x0 x9) fun v24_5 => (k1 (xload E.P m 68 v24_5) fun v25_6 => (k1 (mindexAddr E.P 33 x2 x8) fun v28_7 => (k1 (xload E.P m 68 v28_7) fun v29_8 => (k1 (mbin E .eql 68 v25_6 v29_8) fun v30_9 => (kb v30_9 (k1 (mindexAddr E.P 24 x1 x9) fun v34_10 => (k1 (xload E.P m 3 v34_10) fun v35_11 => (k1 (mbin E .add 3 x7 v35_11) fun v36_12 => (k1 (mbin E .add 3 x9 (.int .i64 1)) fun v21_13 => (ih x0 x1 x2 v36_12 x8 v21_13 m))))) (k1 (mbin E .add 3 x9 (.int .i64 1)) fun v21_14 => (ih x0 x1 x2 x7 x8 v21_14 m)))))))) (kx2 x0 x1 x2 x7 x8 m))))) n
noncomputable def r24_L0 (call : CallF) (fuel base : Nat) (kx0 : Value → M → Res2) (n : Nat) : Value → Value → Value → Value → Value → M → Res2 :=
  Nat.rec (motive := fun _ => Value → Value → Value → Value → Value → M → Res2) (fun _ _ _ _ _ _ => none)
    (fun _ ih x0 x1 x2 x7 x8 m =>
      (k2 (vcall E.P base m .len [33] [x2]) fun v12_1 m => (k1 (mbin E .lss 3 x8 v12_1) fun v13_2 => (kb v13_2 (r24_L2 call fuel base (fun y0_15 y1_16 y2_17 y7_18 y8_19 m => (k1 (mbin E .add 3 y8_19 (.int .i64 1)) fun v15_20 => (ih y0_15 y1_16 y2_17 y7_18 v15_20 m))) fuel x0 x1 x2 x7 x8 (.int .i64 0) m) (kx0 x7 m))))) n
noncomputable def r24 (call : CallF) (fuel base : Nat) (x0 : Value) (x1 : Value) (x2 : Value) (m : M) : Res2 :=
  (r24_L0 call fuel base (fun y7_21 m => (fVal y7_21 fun v => some (.ret v, m))) fuel x0 x1 x2 (.int .i64 0) (.int .i64 0) m)
def keep24 : Keep := { region := fun i => ([[0, 1, 2], [0, 1, 2, 7], [0, 1, 2, 7, 8], [0, 1, 2, 7, 8, 13], [0, 1, 2, 7, 8], [0, 1, 2, 7, 8, 9], [0, 1, 2, 7, 8, 9, 19], [0, 1, 2, 7, 8, 9], [0, 1, 2, 7, 8, 9, 30], [0, 1, 2, 7, 8, 9], [6]] : List (List Nat))[i]?, exit := fun i => ([[7], [0, 1, 2, 7, 8], [0, 1, 2, 7, 8], [0, 1, 2, 7, 8, 9]] : List (List Nat))[i]?, ret := some [6] }
noncomputable def r24_L2_R (call : CallF) (fuel base n : Nat) (vs : List Value) (m : M) (K : KT) : Res2 := match vs with
  | [x0, x1, x2, x7, x8, x9] => r24_L2 call fuel base (fun y0 y1 y2 y7 y8 m => K (.exit 2) { n := 38, l := [(0, y0), (1, y1), (2, y2), (7, y7), (8, y8)] } m) n x0 x1 x2 x7 x8 x9 m
  | _ => none
noncomputable def r24_L0_R (call : CallF) (fuel base n : Nat) (vs : List Value) (m : M) (K : KT) : Res2 := match vs with
  | [x0, x1, x2, x7, x8] => r24_L0 call fuel base (fun y7 m => K (.exit 0) { n := 38, l := [(7, y7)] } m) n x0 x1 x2 x7 x8 m
  | _ => none
noncomputable def lp24 (call : CallF) (fuel base : Nat) : Lp := lpsel [(2, fun T m K => kslots 38 [0, 1, 2, 7, 8, 9] T fun vs => r24_L2_R call fuel base fuel vs m K), (0, fun T m K => kslots 38 [0, 1, 2, 7, 8] T fun vs => r24_L0_R call fuel base fuel vs m K)]
noncomputable def c24 : Code := Tryz.f24.body.getD .skip
theorem r24_L2_lk (call : CallF) (fuel base : Nat) : LoopsOk E call (lp24 call fuel base) fuel base 2 (loopB (blockB (seqR (blockB (seqL (seqR (loopB (blockB (seqR (seqL (seqR (seqR c24)))))))))))) = (And (And True (And True True)) (And (And True (And True True)) True)) := by kernel_rfl
theorem r24_L2_ok (call : CallF) (fuel base : Nat) : LpOk E call (lp24 call fuel base) fuel base 2 (loopB (blockB (seqR (blockB (seqL (seqR (loopB (blockB (seqR (seqL (seqR (seqR c24)))))))))))) := by
  refine loop_ok (kp := keep24) (hb := Eq.mpr (r24_L2_lk call fuel base) (And.intro (And.intro trivial (And.intro trivial trivial)) (And.intro (And.intro trivial (And.intro trivial trivial)) trivial))) 38 [0, 1, 2, 7, 8, 9] (fun n vs m K => r24_L2_R call fuel base n vs m K) ?_ ?_ (fun _ _ _ => rfl)
  · intro vs m K
    unfold r24_L2_R
    split <;> rfl
  · intro n vs m K hl
    match vs, hl with
    | [x0, x1, x2, x7, x8, x9], _ => show _ = _; kernel_rfl
theorem r24_L0_lk (call : CallF) (fuel base : Nat) : LoopsOk E call (lp24 call fuel base) fuel base 0 (loopB (blockB (seqR (seqL (seqR (seqR c24)))))) = (And (And True (And True True)) (And (And True (LpOk E call (lp24 call fuel base) fuel base 2 (loopB (blockB (seqR (blockB (seqL (seqR (loopB (blockB (seqR (seqL (seqR (seqR c24)))))))))))))) True)) := by kernel_rfl
theorem r24_L0_ok (call : CallF) (fuel base : Nat) : LpOk E call (lp24 call fuel base) fuel base 0 (loopB (blockB (seqR (seqL (seqR (seqR c24)))))) := by
  refine loop_ok (kp := keep24) (hb := Eq.mpr (r24_L0_lk call fuel base) (And.intro (And.intro trivial (And.intro trivial trivial)) (And.intro (And.intro trivial (r24_L2_ok call fuel base)) trivial))) 38 [0, 1, 2, 7, 8] (fun n vs m K => r24_L0_R call fuel base n vs m K) ?_ ?_ (fun _ _ _ => rfl)
  · intro vs m K
    unfold r24_L0_R
    split <;> rfl
  · intro n vs m K hl
    match vs, hl with
    | [x0, x1, x2, x7, x8], _ => show _ = _; kernel_rfl
theorem r24_eq (call : CallF) (fuel base : Nat) (x0 : Value) (x1 : Value) (x2 : Value) (m : M) : kbody E call keep24 (lp24 call fuel base) base Tryz.f24 [x0, x1, x2] m = r24 call fuel base x0 x1 x2 m := by
  kernel_rfl
noncomputable def rf24 : RF := fun call fuel base args m => match args with
  | [x0, x1, x2] => r24 call fuel base x0 x1 x2 m
  | _ => none
theorem r24_lk (call : CallF) (fuel base : Nat) : LoopsOk E call (lp24 call fuel base) fuel base 0 c24 = (And True (And True (And (And True (LpOk E call (lp24 call fuel base) fuel base 0 (loopB (blockB (seqR (seqL (seqR (seqR c24)))))))) (And True True)))) := by kernel_rfl
theorem r24_fn : E.P.funcs[24]? = some Tryz.f24 := by kernel_rfl
theorem r24_body : Tryz.f24.body = some c24 := by kernel_rfl
theorem rf24_ok : RFok E 24 rf24 := by
  show RFok' E 24 rf24
  refine ⟨Tryz.f24, r24_fn, fun call fuel base args m r _ h => ?_⟩
  unfold rf24 at h
  split at h
  · rw [← r24_eq] at h
    exact kbody_sound (c := c24) r24_body (Eq.mpr (r24_lk call fuel base) (And.intro trivial (And.intro trivial (And.intro (And.intro trivial (r24_L0_ok call fuel base)) (And.intro trivial trivial))))) h
  · simp at h
end Go.AM
namespace Go.AM
open Go Go.Proofs
noncomputable def r25_L0 (call : CallF) (fuel base : Nat) (kx0 : Value → M → Res2) (n : Nat) : Value → Value → Value → Value → M → Res2 :=
  Nat.rec (motive := fun _ => Value → Value → Value → Value → M → Res2) (fun _ _ _ _ _ => none)
    (fun _ ih x3 x5 x6 x7 m =>
      (k2 (vcall E.P base m .len [34] [x6]) fun v15_6 m => (k1 (mbin E .lss 3 x7 v15_6) fun v16_7 => (kb v16_7 (k1 (mindexAddr E.P 34 x6 x7) fun v22_8 => (k1 (mfieldAddr E.P 68 v22_8 0) fun v23_9 => (k1 (xload E.P m 3 v23_9) fun v24_10 => (k1 (mfieldAddr E.P 64 x3 1) fun v25_11 => (k1 (xload E.P m 3 v25_11) fun v26_12 => (k1 (mbin E .add 3 v24_10 v26_12) fun v27_13 => (k1 (mindexAddr E.P 34 x6 x7) fun v30_14 => (k1 (mfieldAddr E.P 68 v30_14 1) fun v31_15 => (k1 (xload E.P m 3 v31_15) fun v32_16 => (k1 (mfieldAddr E.P 64 x3 2) fun v33_17 => (k1 (xload E.P m 3 v33_17) fun v34_18 => (k1 (mbin E .add 3 v32_16 v34_18) fun v35_19 => (k1 (mbuild E.P 68 [(0, v27_13), (1, v35_19)]) fun v36_20 => (k2 (xbuildSlice E.P m 33 1 [(0, v36_20)]) fun v37_21 m => (k2 (vcall E.P base m .append [33, 33] [x5, v37_21]) fun v38_22 m => (k1 (mbin E .add 3 x7 (.int .i64 1)) fun v18_23 => (ih x3 v38_22 x6 v18_23 m))))))))))))))))) (kx0 x5 m))))) n
noncomputable def r25 (call : CallF) (fuel base : Nat) (x0 : Value) (x1 : Value) (m : M) : Res2 :=
  (k2 (xbox m x1) fun v3_1 m => (k1 (mfieldAddr E.P 64 v3_1 0) fun v9_2 => (k1 (xload E.P m 3 v9_2) fun v10_3 => (k1 (mindexAddr E.P 23 x0 v10_3) fun v11_4 => (k1 (xload E.P m 34 v11_4) fun v12_5 => (r25_L0 call fuel base (fun y5_24 m => (fVal y5_24 fun v => some (.ret v, m))) fuel v3_1 (.slice none 0 0) v12_5 (.int .i64 0) m))))))
def keep25 : Keep := { region := fun i => ([[0, 3], [0, 3, 5], [3, 5, 6], [3, 5, 6, 7], [3, 5, 6, 7, 16], [3, 5, 6, 7], [3, 5, 6, 7], [4]] : List (List Nat))[i]?, exit := fun i => ([[5], [3, 5, 6, 7]] : List (List Nat))[i]?, ret := some [4] }
noncomputable def r25_L0_R (call : CallF) (fuel base n : Nat) (vs : List Value) (m : M) (K : KT) : Res2 := match vs with
  | [x3, x5, x6, x7] => r25_L0 call fuel base (fun y5 m => K (.exit 0) { n := 40, l := [(5, y5)] } m) n x3 x5 x6 x7 m
  | _ => none
noncomputable def lp25 (call : CallF) (fuel base : Nat) : Lp := lpsel [(0, fun T m K => kslots 40 [3, 5, 6, 7] T fun vs => r25_L0_R call fuel base fuel vs m K)]
noncomputable def c25 : Code := Tryz.f25.body.getD .skip
theorem r25_L0_lk (call : CallF) (fuel base : Nat) : LoopsOk E call (lp25 call fuel base) fuel base 0 (loopB (blockB (seqR (seqL (seqR (seqR (seqR c25))))))) = (And (And True (And True True)) (And True True)) := by kernel_rfl
theorem r25_L0_ok (call : CallF) (fuel base : Nat) : LpOk E call (lp25 call fuel base) fuel base 0 (loopB (blockB (seqR (seqL (seqR (seqR (seqR c25))))))) := by
  refine loop_ok (kp := keep25) (hb := Eq.mpr (r25_L0_lk call fuel base) (And.intro (And.intro trivial (And.intro trivial trivial)) (And.intro trivial trivial))) 40 [3, 5, 6, 7] (fun n vs m K => r25_L0_R call fuel base n vs m K) ?_ ?_ (fun _ _ _ => rfl)
  · intro vs m K
    unfold r25_L0_R
    split <;> rfl
  · intro n vs m K hl
    match vs, hl with
    | [x3, x5, x6, x7], _ => show _ = _; kernel_rfl
theorem r25_eq (call : CallF) (fuel base : Nat) (x0 : Value) (x1 : Value) (m : M) : kbody E call keep25 (lp25 call fuel base) base Tryz.f25 [x0, x1] m = r25 call fuel base x0 x1 m := by
  kernel_rfl
noncomputable def rf25 : RF := fun call fuel base args m => match args with
  | [x0, x1] => r25 call fuel base x0 x1 m
  | _ => none
theorem r25_lk (call : CallF) (fuel base : Nat) : LoopsOk E call (lp25 call fuel base) fuel base 0 c25 = (And True (And True (And True (And (And True (LpOk E call (lp25 call fuel base) fuel base 0 (loopB (blockB (seqR (seqL (seqR (seqR (seqR c25))))))))) (And True True))))) := by kernel_rfl
theorem r25_fn : E.P.funcs[25]? = some Tryz.f25 := by kernel_rfl
theorem r25_body : Tryz.f25.body = some c25 := by kernel_rfl
theorem rf25_ok : RFok E 25 rf25 := by
  show RFok' E 25 rf25
  refine ⟨Tryz.f25, r25_fn, fun call fuel base args m r _ h => ?_⟩
  unfold rf25 at h
  split at h
  · rw [← r25_eq] at h
    exact kbody_sound (c := c25) r25_body (Eq.mpr (r25_lk call fuel base) (And.intro trivial (And.intro trivial (And.intro trivial (And.intro (And.intro trivial (r25_L0_ok call fuel base)) (And.intro trivial trivial)))))) h
  · simp at h
end Go.AM
namespace Go.AM
open Go Go.Proofs
noncomputable def r26 (call : CallF) (fuel base : Nat) (x0 : Value) (m : M) : Res2 :=
  (k1 (mbin E .gtr 50 x0 (.int .i64 0)) fun v4_1 => (fVal v4_1 fun v => some (.ret v, m)))
def keep26 : Keep := { region := fun i => ([[0], [2]] : List (List Nat))[i]?, exit := fun i => ([] : List (List Nat))[i]?, ret := some [2] }
noncomputable def lp26 (call : CallF) (fuel base : Nat) : Lp := lpsel []
noncomputable def c26 : Code := Tryz.f26.body.getD .skip
theorem r26_eq (call : CallF) (fuel base : Nat) (x0 : Value) (m : M) : kbody E call keep26 (lp26 call fuel base) base Tryz.f26 [x0] m = r26 call fuel base x0 m := by
  kernel_rfl
noncomputable def rf26 : RF := fun call fuel base args m => match args with
  | [x0] => r26 call fuel base x0 m
  | _ => none
theorem r26_lk (call : CallF) (fuel base : Nat) : LoopsOk E call (lp26 call fuel base) fuel base 0 c26 = (And True (And True True)) := by kernel_rfl
theorem r26_fn : E.P.funcs[26]? = some Tryz.f26 := by kernel_rfl
theorem r26_body : Tryz.f26.body = some c26 := by kernel_rfl
theorem rf26_ok : RFok E 26 rf26 := by
  show RFok' E 26 rf26
  refine ⟨Tryz.f26, r26_fn, fun call fuel base args m r _ h => ?_⟩
  unfold rf26 at h
  split at h
  · rw [← r26_eq] at h
    exact kbody_sound (c := c26) r26_body (Eq.mpr (r26_lk call fuel base) (And.intro trivial (And.intro trivial trivial))) h
  · simp at h
end Go.AM
namespace Go.AM
open Go Go.Proofs
noncomputable def r27 (call : CallF) (fuel base : Nat) (x0 : Value) (x1 : Value) (m : M) : Res2 :=
  (k1 (xload E.P m 51 x1) fun v4_1 => (kc (kv call base v4_1 [x0] m) (fun v6_2 m => (k1 (mun .not v6_2) fun v7_3 => (fVal v7_3 fun v => some (.ret v, m)))) (fun v m => some (.pan v, m))))
def keep27 : Keep := { region := fun i => ([[0, 1], [3]] : List (List Nat))[i]?, exit := fun i => ([] : List (List Nat))[i]?, ret := some [3] }
noncomputable def lp27 (call : CallF) (fuel base : Nat) : Lp := lpsel []
noncomputable def c27 : Code := Tryz.f27.body.getD .skip
theorem r27_eq (call : CallF) (fuel base : Nat) (x0 : Value) (x1 : Value) (m : M) : kbody E call keep27 (lp27 call fuel base) base Tryz.f27 [x0, x1] m = r27 call fuel base x0 x1 m := by
  kernel_rfl
noncomputable def rf27 : RF := fun call fuel base args m => match args with
  | [x0, x1] => r27 call fuel base x0 x1 m
  | _ => none
theorem r27_lk (call : CallF) (fuel base : Nat) : LoopsOk E call (lp27 call fuel base) fuel base 0 c27 = (And True (And True True)) := by kernel_rfl
theorem r27_fn : E.P.funcs[27]? = some Tryz.f27 := by kernel_rfl
theorem r27_body : Tryz.f27.body = some c27 := by kernel_rfl
theorem rf27_ok : RFok E 27 rf27 := by
  show RFok' E 27 rf27
  refine ⟨Tryz.f27, r27_fn, fun call fuel base args m r _ h => ?_⟩
  unfold rf27 at h
  split at h
  · rw [← r27_eq] at h
    exact kbody_sound (c := c27) r27_body (Eq.mpr (r27_lk call fuel base) (And.intro trivial (And.intro trivial trivial))) h
  · simp at h
end Go.AM
namespace Go.AM
open Go Go.Proofs
noncomputable def r28_L0 (call : CallF) (fuel base : Nat) (kr : Value → M → Res2) (kx0 : M → Res2) (n : Nat) : Value → Value → Value → Value → M → Res2 :=
  Nat.rec (motive := fun _ => Value → Value → Value → Value → M → Res2) (fun _ _ _ _ _ => none)
    (fun _ ih x0 x20 x21 x22 m =>
      (k1 (mbin E .lss 3 x22 x21) fun v23_10 => (kb v23_10 (k1 (mindexAddr E.P 34 x20 x22) fun v25_11 => (k1 (xload E.P m 68 v25_11) fun v26_12 => (k2 (xalloc E.P m 68) fun v4_13 m => (ks (xstore E.P base m 68 v4_13 v26_12) fun m => (k1 (mfieldAddr E.P 68 v4_13 0) fun v27_14 => (k1 (xload E.P m 3 v27_14) fun v28_15 => (k1 (mbin E .lss 3 v28_15 (.int .i64 (-4))) fun v29_16 => (kb v29_16 (kr (.bool false) m) (k1 (mfieldAddr E.P 68 v4_13 0) fun v31_17 => (k1 (xload E.P m 3 v31_17) fun v32_18 => (k1 (mbin E .gtr 3 v32_18 (.int .i64 4)) fun v33_19 => (kb v33_19 (kr (.bool false) m) (k1 (mfieldAddr E.P 68 v4_13 1) fun v36_20 => (k1 (xload E.P m 3 v36_20) fun v37_21 => (k1 (mbin E .lss 3 v37_21 (.int .i64 0)) fun v38_22 => (kb v38_22 (kr (.bool false) m) (k1 (mfieldAddr E.P 68 v4_13 1) fun v41_23 => (k1 (xload E.P m 3 v41_23) fun v42_24 => (k1 (mbin E .gtr 3 v42_24 (.int .i64 4)) fun v43_25 => (kb v43_25 (kr (.bool false) m) (k1 (mbin E .gtr 3 x22 (.int .i64 0)) fun v46_26 => (kb v46_26 (k1 (mbin E .sub 3 x22 (.int .i64 1)) fun v50_27 => (k1 (mindexAddr E.P 34 x0 v50_27) fun v51_28 => (k1 (xload E.P m 68 v51_28) fun v52_29 => (k1 (xload E.P m 68 v4_13) fun v53_30 => (kc (kB m (call m.length 41 [v52_29, v53_30] m)) (fun v54_31 m => (k1 (mbin E .geq 3 v54_31 (.int .i64 0)) fun v55_32 => (kb v55_32 (kr (.bool false) m) (k1 (mbin E .add 3 x22 (.int .i64 1)) fun v57_33 => (ih x0 x20 x21 v57_33 m))))) (fun _ _ => none)))))) (k1 (mbin E .add 3 x22 (.int .i64 1)) fun v57_34 => (ih x0 x20 x21 v57_34 m)))))))))))))))))))))))) (kx0 m)))) n
noncomputable def r28 (call : CallF) (fuel base : Nat) (x0 : Value) (m : M) : Res2 :=
  (k2 (vcall E.P base m .len [34] [x0]) fun v6_1 m => (k1 (mbin E .lss 3 v6_1 (.int .i64 1)) fun v7_2 => (kb v7_2 (fVal (.bool false) fun v => some (.ret v, m)) (k2 (vcall E.P base m .len [34] [x0]) fun v10_3 m => (k1 (mbin E .gtr 3 v10_3 (.int .i64 5)) fun v11_4 => (kb v11_4 (fVal (.bool false) fun v => some (.ret v, m)) (k1 (mindexAddr E.P 34 x0 (.int .i64 0)) fun v15_5 => (k1 (xload E.P m 68 v15_5) fun v16_6 => (k1 (mbuild E.P 68 []) fun v17_7 => (k1 (mbin E .neq 68 v16_6 v17_7) fun v18_8 => (kb v18_8 (fVal (.bool false) fun v => some (.ret v, m)) (k2 (vcall E.P base m .len [34] [x0]) fun v21_9 m => (r28_L0 call fuel base (fun y2_35 m => (fVal y2_35 fun v => some (.ret v, m))) (fun m => (fVal (.bool true) fun v => some (.ret v, m))) fuel x0 x0 v21_9 (.int .i64 0) m)))))))))))))
def keep28 : Keep := { region := fun i => ([[0], [0, 19], [2], [0, 20, 21, 22], [0, 20, 21, 22, 23], [0, 3, 4, 20, 21, 22], [0, 3, 4, 20, 21, 22, 44], [2], [0, 20, 21, 22, 56], [2], [0, 20, 21, 22], [2]] : List (List Nat))[i]?, exit := fun i => ([[], [0, 20, 21, 22]] : List (List Nat))[i]?, ret := some [2] }
noncomputable def r28_L0_R (call : CallF) (fuel base n : Nat) (vs : List Value) (m : M) (K : KT) : Res2 := match vs with
  | [x0, x20, x21, x22] => r28_L0 call fuel base (fun y2 m => K .ret { n := 58, l := [(2, y2)] } m) (fun m => K (.exit 0) { n := 58, l := [] } m) n x0 x20 x21 x22 m
  | _ => none
noncomputable def lp28 (call : CallF) (fuel base : Nat) : Lp := lpsel [(0, fun T m K => kslots 58 [0, 20, 21, 22] T fun vs => r28_L0_R call fuel base fuel vs m K)]
noncomputable def c28 : Code := Tryz.f28.body.getD .skip
theorem r28_L0_lk (call : CallF) (fuel base : Nat) : LoopsOk E call (lp28 call fuel base) fuel base 0 (loopB (blockB (seqR (seqL (seqR (seqR c28)))))) = (And True (And (And True True) (And (And True (And (And True (And (And True True) True)) (And True (And (And True True) True)))) True))) := by kernel_rfl
theorem r28_L0_ok (call : CallF) (fuel base : Nat) : LpOk E call (lp28 call fuel base) fuel base 0 (loopB (blockB (seqR (seqL (seqR (seqR c28)))))) := by
  refine loop_ok (kp := keep28) (hb := Eq.mpr (r28_L0_lk call fuel base) (And.intro trivial (And.intro (And.intro trivial trivial) (And.intro (And.intro trivial (And.intro (And.intro trivial (And.intro (And.intro trivial trivial) trivial)) (And.intro trivial (And.intro (And.intro trivial trivial) trivial)))) trivial)))) 58 [0, 20, 21, 22] (fun n vs m K => r28_L0_R call fuel base n vs m K) ?_ ?_ (fun _ _ _ => rfl)
  · intro vs m K
    unfold r28_L0_R
    split <;> rfl
  · intro n vs m K hl
    match vs, hl with
    | [x0, x20, x21, x22], _ => show _ = _; kernel_rfl
theorem r28_eq (call : CallF) (fuel base : Nat) (x0 : Value) (m : M) : kbody E call keep28 (lp28 call fuel base) base Tryz.f28 [x0] m = r28 call fuel base x0 m := by
  kernel_rfl
noncomputable def rf28 : RF := fun call fuel base args m => match args with
  | [x0] => r28 call fuel base x0 m
  | _ => none
theorem r28_lk (call : CallF) (fuel base : Nat) : LoopsOk E call (lp28 call fuel base) fuel base 0 c28 = (And True (And (And True (And (And True True) True)) (And (And True (LpOk E call (lp28 call fuel base) fuel base 0 (loopB (blockB (seqR (seqL (seqR (seqR c28)))))))) (And True True)))) := by kernel_rfl
theorem r28_fn : E.P.funcs[28]? = some Tryz.f28 := by kernel_rfl
theorem r28_body : Tryz.f28.body = some c28 := by kernel_rfl
theorem rf28_ok : RFok E 28 rf28 := by
  show RFok' E 28 rf28
  refine ⟨Tryz.f28, r28_fn, fun call fuel base args m r _ h => ?_⟩
  unfold rf28 at h
  split at h
  · rw [← r28_eq] at h
    exact kbody_sound (c := c28) r28_body (Eq.mpr (r28_lk call fuel base) (And.intro trivial (And.intro (And.intro trivial (And.intro (And.intro trivial trivial) trivial)) (And.intro (And.intro trivial (r28_L0_ok call fuel base)) (And.intro trivial trivial))))) h
  · simp at h
end Go.AM
namespace Go.AM
open Go Go.Proofs
noncomputable def r29_L2 (call : CallF) (fuel base : Nat) (kp : Value → M → Res2) (kx2 : Value → Value → Value → M → Res2) (n : Nat) : Value → Value → Value → Value → Value → M → Res2 :=
  Nat.rec (motive := fun _ => Value → Value → Value → Value → Value → M → Res2) (fun _ _ _ _ _ _ => none)
    (fun _ ih x3 x5 x9 x10 x13 m =>
      (k1 (mbin E .lss 3 x13 (.int .i64 4)) fun v14_5 => (kb v14_5 (kc (call base 42 [x5, (.func (.func 44) #[] #[])] m) (fun v16_6 m => (k2 (xbuildSlice E.P m 23 1 [(0, v16_6)]) fun v19_7 m => (k2 (vcall E.P base m .append [23, 23] [x3, v19_7]) fun v20_8 m => (k1 (mbin E .add 3 x13 (.int .i64 1)) fun v21_9 => (ih v20_8 v16_6 x9 x10 v21_9 m))))) (fun v m => kp v m)) (kx2 x3 x9 x10 m)))) n
noncomputable def r29_L0 (call : CallF) (fuel base : Nat) (kp : Value → M → Res2) (kx0 : Value → M → Res2) (n : Nat) : Value → Value → Value → M → Res2 :=
  Nat.rec (motive := fun _ => Value → Value → Value → M → Res2) (fun _ _ _ _ => none)
    (fun _ ih x3 x9 x10 m =>
      (k1 (mbin E .lss 3 x10 (.int .i64 2)) fun v11_3 => (kb v11_3 (k1 (mindex E.P 87 x9 x10) fun v12_4 => (r29_L2 call fuel base (fun v m => kp v m) (fun y3_10 y9_11 y10_12 m => (k1 (mbin E .add 3 y10_12 (.int .i64 1)) fun v22_13 => (ih y3_10 y9_11 v22_13 m))) fuel x3 v12_4 x9 x10 (.int .i64 0) m)) (kx0 x3 m)))) n
noncomputable def r29 (call : CallF) (fuel base : Nat) (x0 : Value) (m : M) : Res2 :=
  (kc (call base 42 [x0, (.func (.func 43) #[] #[])] m) (fun v8_1 m => (k1 (mbuild E.P 87 [(0, x0), (1, v8_1)]) fun v9_2 => (r29_L0 call fuel base (fun v m => some (.pan v, m)) (fun y3_14 m => (kc (call base 45 [y3_14, (.func (.func 46) #[] #[])] m) (fun v24_15 m => (kc (call base 47 [y3_14, (.func (.func 48) #[] #[])] m) (fun v26_16 m => (fVal v26_16 fun v => some (.ret v, m))) (fun v m => some (.pan v, m)))) (fun v m => some (.pan v, m)))) fuel (.slice none 0 0) v9_2 (.int .i64 0) m))) (fun v m => some (.pan v, m)))
def keep29 : Keep := { region := fun i => ([[0], [0, 3], [3, 9, 10], [3, 9, 10, 11], [3, 5, 9, 10], [3, 5, 9, 10, 13], [3, 5, 9, 10, 13, 14], [3, 5, 9, 10, 13], [3, 5, 9, 10, 13], [3, 5, 9, 10, 13], [3, 9, 10], [3], [2]] : List (List Nat))[i]?, exit := fun i => ([[3], [3, 9, 10], [3, 9, 10], [3, 5, 9, 10, 13]] : List (List Nat))[i]?, ret := some [2] }
noncomputable def r29_L2_R (call : CallF) (fuel base n : Nat) (vs : List Value) (m : M) (K : KT) : Res2 := match vs with
  | [x3, x5, x9, x10, x13] => r29_L2 call fuel base (fun v m => K (.pan v) { n := 27, l := [] } m) (fun y3 y9 y10 m => K (.exit 2) { n := 27, l := [(3, y3), (9, y9), (10, y10)] } m) n x3 x5 x9 x10 x13 m
  | _ => none
noncomputable def r29_L0_R (call : CallF) (fuel base n : Nat) (vs : List Value) (m : M) (K : KT) : Res2 := match vs with
  | [x3, x9, x10] => r29_L0 call fuel base (fun v m => K (.pan v) { n := 27, l := [] } m) (fun y3 m => K (.exit 0) { n := 27, l := [(3, y3)] } m) n x3 x9 x10 m
  | _ => none
noncomputable def lp29 (call : CallF) (fuel base : Nat) : Lp := lpsel [(2, fun T m K => kslots 27 [3, 5, 9, 10, 13] T fun vs => r29_L2_R call fuel base fuel vs m K), (0, fun T m K => kslots 27 [3, 9, 10] T fun vs => r29_L0_R call fuel base fuel vs m K)]
noncomputable def c29 : Code := Tryz.f29.body.getD .skip
theorem r29_L2_lk (call : CallF) (fuel base : Nat) : LoopsOk E call (lp29 call fuel base) fuel base 2 (loopB (blockB (seqR (seqR (blockB (seqL (seqR (seqR (loopB (blockB (seqR (seqL (seqR (seqR c29)))))))))))))) = (And True (And (And True True) (And (And True True) True))) := by kernel_rfl
theorem r29_L2_ok (call : CallF) (fuel base : Nat) : LpOk E call (lp29 call fuel base) fuel base 2 (loopB (blockB (seqR (seqR (blockB (seqL (seqR (seqR (loopB (blockB (seqR (seqL (seqR (seqR c29)))))))))))))) := by
  refine loop_ok (kp := keep29) (hb := Eq.mpr (r29_L2_lk call fuel base) (And.intro trivial (And.intro (And.intro trivial trivial) (And.intro (And.intro trivial trivial) trivial)))) 27 [3, 5, 9, 10, 13] (fun n vs m K => r29_L2_R call fuel base n vs m K) ?_ ?_ (fun _ _ _ => rfl)
  · intro vs m K
    unfold r29_L2_R
    split <;> rfl
  · intro n vs m K hl
    match vs, hl with
    | [x3, x5, x9, x10, x13], _ => show _ = _; kernel_rfl
theorem r29_L0_lk (call : CallF) (fuel base : Nat) : LoopsOk E call (lp29 call fuel base) fuel base 0 (loopB (blockB (seqR (seqL (seqR (seqR c29)))))) = (And True (And (And True True) (And (And True (And True (LpOk E call (lp29 call fuel base) fuel base 2 (loopB (blockB (seqR (seqR (blockB (seqL (seqR (seqR (loopB (blockB (seqR (seqL (seqR (seqR c29))))))))))))))))) True))) := by kernel_rfl
theorem r29_L0_ok (call : CallF) (fuel base : Nat) : LpOk E call (lp29 call fuel base) fuel base 0 (loopB (blockB (seqR (seqL (seqR (seqR c29)))))) := by
  refine loop_ok (kp := keep29) (hb := Eq.mpr (r29_L0_lk call fuel base) (And.intro trivial (And.intro (And.intro trivial trivial) (And.intro (And.intro trivial (And.intro trivial (r29_L2_ok call fuel base))) trivial)))) 27 [3, 9, 10] (fun n vs m K => r29_L0_R call fuel base n vs m K) ?_ ?_ (fun _ _ _ => rfl)
  · intro vs m K
    unfold r29_L0_R
    split <;> rfl
  · intro n vs m K hl
    match vs, hl with
    | [x3, x9, x10], _ => show _ = _; kernel_rfl
theorem r29_eq (call : CallF) (fuel base : Nat) (x0 : Value) (m : M) : kbody E call keep29 (lp29 call fuel base) base Tryz.f29 [x0] m = r29 call fuel base x0 m := by
  kernel_rfl
noncomputable def rf29 : RF := fun call fuel base args m => match args with
  | [x0] => r29 call fuel base x0 m
  | _ => none
theorem r29_lk (call : CallF) (fuel base : Nat) : LoopsOk E call (lp29 call fuel base) fuel base 0 c29 = (And True (And True (And (And True (LpOk E call (lp29 call fuel base) fuel base 0 (loopB (blockB (seqR (seqL (seqR (seqR c29)))))))) (And True (And True True))))) := by kernel_rfl
theorem r29_fn : E.P.funcs[29]? = some Tryz.f29 := by kernel_rfl
theorem r29_body : Tryz.f29.body = some c29 := by kernel_rfl
theorem rf29_ok : RFok E 29 rf29 := by
  show RFok' E 29 rf29
  refine ⟨Tryz.f29, r29_fn, fun call fuel base args m r _ h => ?_⟩
  unfold rf29 at h
  split at h
  · rw [← r29_eq] at h
    exact kbody_sound (c := c29) r29_body (Eq.mpr (r29_lk call fuel base) (And.intro trivial (And.intro trivial (And.intro (And.intro trivial (r29_L0_ok call fuel base)) (And.intro trivial (And.intro trivial trivial)))))) h
  · simp at h
end Go.AM
namespace Go.AM
open Go Go.Proofs
noncomputable def r30_L0 (call : CallF) (fuel base : Nat) (kx0 : Value → M → Res2) (n : Nat) : Value → Value → Value → Value → M → Res2 :=
  Nat.rec (motive := fun _ => Value → Value → Value → Value → M → Res2) (fun _ _ _ _ _ => none)
    (fun _ ih x1 x3 x12 x13 m =>
      (k1 (mbin E .lss 3 x13 x12) fun v14_7 => (kb v14_7 (k1 (mnil x3) fun v18_8 => (k1 (mfieldAddr E.P 93 v18_8 1) fun v19_9 => (k1 (xload E.P m 91 v19_9) fun v20_10 => (k1 (mfieldAddr E.P 44 x1 0) fun v21_11 => (k1 (xload E.P m 3 v21_11) fun v22_12 => (kc (kB m (call m.length 50 [(.int .i64 1), (.int .i64 1)] m)) (fun v24_13 m => (kc (kB m (call m.length 49 [v22_12, x13, v24_13] m)) (fun v25_14 m => (k1 (mbuild E.P 99 [(0, v25_14), (1, (.int .i64 (-1)))]) fun v26_15 => (k2 (xbuildSlice E.P m 91 1 [(0, v26_15)]) fun v27_16 m => (k2 (vcall E.P base m .append [91, 91] [v20_10, v27_16]) fun v28_17 m => (k1 (mnil x3) fun v29_18 => (k1 (mfieldAddr E.P 93 v29_18 1) fun v30_19 => (ks (xstore E.P base m 91 v30_19 v28_17) fun m => (k1 (mbin E .add 3 x13 (.int .i64 1)) fun v31_20 => (ih x1 x3 x12 v31_20 m))))))))) (fun _ _ => none))) (fun _ _ => none))))))) (kx0 x3 m)))) n
noncomputable def r30_L2 (call : CallF) (fuel base : Nat) (kp : Value → M → Res2) (kx2 : Value → M → Res2) (n : Nat) : Value → Value → Value → M → Res2 :=
  Nat.rec (motive := fun _ => Value → Value → Value → M → Res2) (fun _ _ _ _ => none)
    (fun _ ih x3 x36 x37 m =>
      (k1 (mbin E .lss 3 x37 x36) fun v38_26 => (kb v38_26 (kc (call base 51 [x3, x37, (.func (.func 52) #[] #[])] m) (fun v43_27 m => (k1 (mextract 0 v43_27) fun v44_28 => (k1 (mextract 1 v43_27) fun v45_29 => (kb v45_29 (kc (call base 53 [x3, x37, v44_28] m) (fun v50_30 m => (k1 (mbin E .add 3 x37 (.int .i64 1)) fun v51_31 => (ih x3 x36 v51_31 m))) (fun v m => kp v m)) (k1 (mbin E .add 3 x37 (.int .i64 1)) fun v51_32 => (ih x3 x36 v51_32 m)))))) (fun v m => kp v m)) (kx2 x3 m)))) n
noncomputable def r30 (call : CallF) (fuel base : Nat) (x0 : Value) (m : M) : Res2 :=
  (k2 (xbox m x0) fun v1_1 m => (k1 (xload E.P m 44 v1_1) fun v8_2 => (k1 (mbuild E.P 93 [(0, v8_2)]) fun v9_3 => (k2 (xbox m v9_3) fun v10_4 m => (k1 (mfieldAddr E.P 44 v1_1 0) fun v11_5 => (k1 (xload E.P m 3 v11_5) fun v12_6 => (r30_L0 call fuel base (fun y3_21 m => (k1 (mnil y3_21) fun v33_22 => (k1 (mfieldAddr E.P 93 v33_22 1) fun v34_23 => (k1 (xload E.P m 91 v34_23) fun v35_24 => (k2 (vcall E.P base m .len [91] [v35_24]) fun v36_25 m => (r30_L2 call fuel base (fun v m => some (.pan v, m)) (fun y3_33 m => (fVal y3_33 fun v => some (.ret v, m))) fuel y3_21 v36_25 (.int .i64 0) m)))))) fuel v1_1 v10_4 v12_6 (.int .i64 0) m)))))))
def keep30 : Keep := { region := fun i => ([[1], [1, 3], [1, 3, 12, 13], [1, 3, 12, 13, 14], [1, 3, 4, 12, 13], [1, 3, 12, 13], [1, 3, 12, 13], [3, 36, 37], [3, 36, 37, 38], [3, 5, 36, 37], [3, 5, 6, 7, 36, 37], [3, 5, 6, 36, 37, 46], [3, 36, 37], [3, 36, 37], [2]] : List (List Nat))[i]?, exit := fun i => ([[3], [1, 3, 12, 13], [3], [3, 36, 37]] : List (List Nat))[i]?, ret := some [2] }
noncomputable def r30_L0_R (call : CallF) (fuel base n : Nat) (vs : List Value) (m : M) (K : KT) : Res2 := match vs with
  | [x1, x3, x12, x13] => r30_L0 call fuel base (fun y3 m => K (.exit 0) { n := 53, l := [(3, y3)] } m) n x1 x3 x12 x13 m
  | _ => none
noncomputable def r30_L2_R (call : CallF) (fuel base n : Nat) (vs : List Value) (m : M) (K : KT) : Res2 := match vs with
  | [x3, x36, x37] => r30_L2 call fuel base (fun v m => K (.pan v) { n := 53, l := [] } m) (fun y3 m => K (.exit 2) { n := 53, l := [(3, y3)] } m) n x3 x36 x37 m
  | _ => none
noncomputable def lp30 (call : CallF) (fuel base : Nat) : Lp := lpsel [(0, fun T m K => kslots 53 [1, 3, 12, 13] T fun vs => r30_L0_R call fuel base fuel vs m K), (2, fun T m K => kslots 53 [3, 36, 37] T fun vs => r30_L2_R call fuel base fuel vs m K)]
noncomputable def c30 : Code := Tryz.f30.body.getD .skip
theorem r30_L0_lk (call : CallF) (fuel base : Nat) : LoopsOk E call (lp30 call fuel base) fuel base 0 (loopB (blockB (seqR (seqL (seqR (seqR c30)))))) = (And True (And (And True True) (And (And True True) True))) := by kernel_rfl
theorem r30_L0_ok (call : CallF) (fuel base : Nat) : LpOk E call (lp30 call fuel base) fuel base 0 (loopB (blockB (seqR (seqL (seqR (seqR c30)))))) := by
  refine loop_ok (kp := keep30) (hb := Eq.mpr (r30_L0_lk call fuel base) (And.intro trivial (And.intro (And.intro trivial trivial) (And.intro (And.intro trivial trivial) trivial)))) 53 [1, 3, 12, 13] (fun n vs m K => r30_L0_R call fuel base n vs m K) ?_ ?_ (fun _ _ _ => rfl)
  · intro vs m K
    unfold r30_L0_R
    split <;> rfl
  · intro n vs m K hl
    match vs, hl with
    | [x1, x3, x12, x13], _ => show _ = _; kernel_rfl
theorem r30_L2_lk (call : CallF) (fuel base : Nat) : LoopsOk E call (lp30 call fuel base) fuel base 2 (loopB (blockB (seqR (seqL (seqR (seqR (seqR c30))))))) = (And True (And (And True True) (And (And True (And True (And True (And True True)))) True))) := by kernel_rfl
theorem r30_L2_ok (call : CallF) (fuel base : Nat) : LpOk E call (lp30 call fuel base) fuel base 2 (loopB (blockB (seqR (seqL (seqR (seqR (seqR c30))))))) := by
  refine loop_ok (kp := keep30) (hb := Eq.mpr (r30_L2_lk call fuel base) (And.intro trivial (And.intro (And.intro trivial trivial) (And.intro (And.intro trivial (And.intro trivial (And.intro trivial (And.intro trivial trivial)))) trivial)))) 53 [3, 36, 37] (fun n vs m K => r30_L2_R call fuel base n vs m K) ?_ ?_ (fun _ _ _ => rfl)
  · intro vs m K
    unfold r30_L2_R
    split <;> rfl
  · intro n vs m K hl
    match vs, hl with
    | [x3, x36, x37], _ => show _ = _; kernel_rfl
theorem r30_eq (call : CallF) (fuel base : Nat) (x0 : Value) (m : M) : kbody E call keep30 (lp30 call fuel base) base Tryz.f30 [x0] m = r30 call fuel base x0 m := by
  kernel_rfl
noncomputable def rf30 : RF := fun call fuel base args m => match args with
  | [x0] => r30 call fuel base x0 m
  | _ => none
theorem r30_lk (call : CallF) (fuel base : Nat) : LoopsOk E call (lp30 call fuel base) fuel base 0 c30 = (And True (And True (And (And True (LpOk E call (lp30 call fuel base) fuel base 0 (loopB (blockB (seqR (seqL (seqR (seqR c30)))))))) (And (And True (LpOk E call (lp30 call fuel base) fuel base 2 (loopB (blockB (seqR (seqL (seqR (seqR (seqR c30))))))))) (And True True))))) := by kernel_rfl
theorem r30_fn : E.P.funcs[30]? = some Tryz.f30 := by kernel_rfl
theorem r30_body : Tryz.f30.body = some c30 := by kernel_rfl
theorem rf30_ok : RFok E 30 rf30 := by
  show RFok' E 30 rf30
  refine ⟨Tryz.f30, r30_fn, fun call fuel base args m r _ h => ?_⟩
  unfold rf30 at h
  split at h
  · rw [← r30_eq] at h
    exact kbody_sound (c := c30) r30_body (Eq.mpr (r30_lk call fuel base) (And.intro trivial (And.intro trivial (And.intro (And.intro trivial (r30_L0_ok call fuel base)) (And.intro (And.intro trivial (r30_L2_ok call fuel base)) (And.intro trivial trivial)))))) h
  · simp at h
end Go.AM
