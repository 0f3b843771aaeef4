import Derived.KernelRfl
import Derived.Laws.BytesArg
import Derived.Laws.StructEq
import Derived.RangeFuncLeaves
import Derived.RangeFuncRecord
import Derived.Test.YtnefldkiipdckaaProg
import Derived.Test.YtnefldkiipdckaaRows
import Derived.WalkKit
import Derived.Test.YtnefldkiipdckaaAmB
import Derived.Test.YtnefldkiipdckaaAmG
import Derived.Test.YtnefldkiipdckaaAmModel
import Derived.Test.YtnefldkiipdckaaAmRel
import Derived.Test.YtnefldkiipdckaaAmOps6
import Derived.Test.YtnefldkiipdckaaAmCode
import Derived.Test.YtnefldkiipdckaaAmDraw5
import Derived.Test.YtnefldkiipdckaaAmEq
set_option linter.unusedVariables false
set_option linter.unusedSimpArgs false
set_option linter.unusedSectionVars false
namespace Go.AM
open Go Go.Proofs
noncomputable def E : Env where
  P := Try.prog
  pure := fun f => [14,17,19,22,28,30,34,35,36,37,38,39,40,41,42,44,45,48,49,50,51,57,58,59,60,61,63,65,66,68,69,76,79,84,85,86,87,88,89,90,92,93,99,103,104,108,109,111,130,131].contains f
  eqt := fun t => if t == 144 then [1, 3, 5, 7, 9] else []
  live := fun _ _ => none
theorem u4 : Try.prog.underlying 4 = some .bool := by kernel_rfl
theorem peq_bool {P : Program} {t : TypeId} (h : P.underlying t = some .bool) (d : Nat) : PEq P (d + 1) t [1] := by
  intro off xs ys r w hc
  simp only [List.map_cons, List.map_nil, ceqs] at hc
  rw [show (1 + 2 * off) / 2 = off by omega, show (1 + 2 * off) % 2 = 1 by omega] at hc
  split at hc
  · rename_i x y hx hy
    have hx' : xs[off]? = some x := by simpa using hx
    have hy' : ys[off]? = some y := by simpa using hy
    have hp : ∀ zs : Array Value, ∀ z, zs[off]? = some z → (part t zs off).run P w = .ok z w := by
      intro zs z hz
      simp [part, isAgg, run_underlying h, hz]
    refine ⟨x, y, hp _ _ hx', hp _ _ hy', ?_⟩
    cases hb : ceq 1 x y with
    | none => rw [hb] at hc; simp at hc
    | some b =>
      have hr : r = b := by rw [hb] at hc; cases b <;> simp at hc <;> exact hc
      subst hr
      unfold ceq at hb
      split at hb
      · exact absurd ‹(1 : Nat) = 0› (by decide)
      · simp only [Option.some.injEq] at hb
        simp [Op.equalIn, run_underlying h, ← hb]
      · simp at hb
  · simp at hc
theorem ae144 (d : Nat) : AEq Try.prog (d + 2) 144 [1, 3, 5, 7, 9] := aeq_array (len := 5) (elem := 4) (n := 1) (is := [1]) (by kernel_rfl) (by kernel_rfl) (peq_bool u4 d)
theorem nogAll : (Try.prog.funcs.toList.all fun fn => !(fn.body.isSome && fn.name == "runtime.NumGoroutine")) = true := by kernel_rfl
theorem keysNodup : (siteTab.map (·.key)).Nodup := by
  have h : siteTab.map (·.key) = [] := by kernel_rfl
  rw [h]; exact List.nodup_nil
theorem sitesAll : (Try.prog.funcs.toList.zipIdx.all fun p => siteFns.contains p.2 || ((p.1.body.map fun c => (sitesOf c).isEmpty).getD true)) = true := by kernel_rfl
theorem site_of {f : Nat} (hf : f ∈ siteFns) {s : Site} (hs : s ∈ sitesOf (fcode f)) : gsite s.key = some s :=
  findSite_of keysNodup (List.mem_flatMap.2 ⟨f, hf, hs⟩)
/-- Is a function a type's own method, of its values as they are? -/
def isPtrT (P : Program) (t : TypeId) : Option Bool := match P.underlying t with
  | some (.pointer _) => some true
  | some _ => some false
  | none => none
def methB (P : Program) (t : TypeId) (name : String) (f : FuncId) : Bool := match P.info? t with
  | some i => match i.methods.find? (·.name == name) with
    | some m => m.path.toList.isEmpty && (match m.func with
      | some (g, p) => g == f && (isPtrT P t == some p)
      | none => false)
    | none => false
  | none => false
theorem methB_run {P : Program} {t : TypeId} {name : String} {f : FuncId} (h : methB P t name f = true) (w : World) (v : Value) (n : Nat) : (method (n + 1) t v name).run P w = .ok (f, v) w := by
  unfold methB at h
  split at h
  · rename_i i hi
    split at h
    · rename_i mm hm
      have e1 : (typeInfo t).run P w = .ok i w := by simp [typeInfo, hi]
      unfold method
      rw [Sem.run_bind, e1]
      simp only [Result.andThen_ok, hm]
      rw [Bool.and_eq_true] at h
      obtain ⟨hp, h⟩ := h
      rw [List.isEmpty_iff] at hp
      split at h
      · rename_i g p hf
        simp only [Bool.and_eq_true, beq_iff_eq] at h
        obtain ⟨rfl, h⟩ := h
        rw [hp]
        simp only [follow, Sem.run_bind, Sem.run_pure, Result.andThen_ok, hf]
        unfold isPtrT at h
        split at h
        · rename_i el hu
          simp only [Option.some.injEq] at h
          subst h
          simp [receiverAt, run_underlying hu, Place.get]
        · rename_i d hd hu
          simp only [Option.some.injEq] at h
          subst h
          simp only [receiverAt, Sem.run_bind, run_underlying hu, Result.andThen_ok]
          simp [Place.get]
        · simp at h
      · simp at h
    · simp at h
  · simp at h
theorem gmethsAll : (gmeths.all fun p => match gnames[p.2.1]? with
  | some nm => methB Try.prog p.1 nm p.2.2
  | none => false) = true := by kernel_rfl
theorem mlook_mem {l : List (TypeId × Nat × FuncId)} {t n f : Nat} (h : mlook l t n = some f) : (t, n, f) ∈ l := by
  induction l with
  | nil => simp [mlook] at h
  | cons p l ih =>
    obtain ⟨a, b, g⟩ := p
    simp only [mlook] at h
    split at h
    · rename_i h1
      split at h
      · rename_i h2
        have e1 := Nat.eq_of_beq_eq_true h1
        have e2 := Nat.eq_of_beq_eq_true h2
        simp only [Option.some.injEq] at h
        subst h; subst e1; subst e2; simp
      · exact List.mem_cons_of_mem _ (ih h)
    · exact List.mem_cons_of_mem _ (ih h)
theorem sfindi_get : ∀ {l : List String} {n : Nat} {s nm : String} {k : Nat}, n + l.length ≤ 1000000 → sfindi l n s = n + k → l[k]? = some nm → nm = s
  | [], n, s, nm, k, _, _, h2 => by simp at h2
  | a :: l, n, s, nm, k, hl, h1, h2 => by
    unfold sfindi at h1
    by_cases e : a = s
    · rw [if_pos e] at h1
      have : k = 0 := by omega
      subst this
      simp at h2
      exact h2.symm.trans e
    · rw [if_neg e] at h1
      cases k with
      | zero =>
        exfalso
        have key : ∀ (l : List String) (q : Nat), q + l.length ≤ 1000000 → n < q → sfindi l q s ≠ n := by
          intro l
          induction l with
          | nil => intro q hq hn he; unfold sfindi at he; simp at hq; omega
          | cons b l ih =>
            intro q hq hn he
            unfold sfindi at he
            split at he
            · omega
            · exact ih (q + 1) (by simp at hq; omega) (by omega) he
        exact key l (n + 1) (by simp at hl; omega) (by omega) (by simpa using h1)
      | succ k => exact sfindi_get (l := l) (n := n + 1) (k := k) (by simp at hl; omega) (by rw [h1]; omega) (by simpa using h2)
theorem E_good : E.Good where
  meth := by
    intro t name f h w v n
    have h1 := List.all_eq_true.1 gmethsAll _ (mlook_mem h)
    simp only at h1
    split at h1
    · rename_i nm hnm
      have e : nm = name := sfindi_get (l := gnames) (n := 0) (by decide) (by unfold gname; exact (Nat.zero_add _).symm) hnm
      subst e
      exact methB_run h1 w v n
    · simp at h1
  eqt := by
    intro t xs ys r w x y hne hc
    have ht : t = 144 := by
      unfold E at hne
      simp only [beq_iff_eq] at hne
      by_cases h1 : t = 144
      · exact h1
      simp [h1] at hne
    subst ht
    exact eqt_deep (by kernel_rfl) (ae144 9998) w x y hc
  nog := by
    intro f fn hf hb
    have h := List.all_eq_true.1 nogAll fn (Array.mem_toList_iff.2 (Array.mem_of_getElem? hf))
    simpa [hb] using h
  sites := by
    intro f fn c hf hc s hs
    have h := List.all_eq_true.1 sitesAll (fn, f) (by rw [List.mem_zipIdx_iff_getElem?]; have hf' : Try.prog.funcs[f]? = some fn := hf; simpa using hf')
    simp only [Bool.or_eq_true] at h
    rcases h with h | h
    · refine site_of (f := f) (by simpa using h) ?_
      have e : fcode f = c := by
        show (((E.P.funcs[f]?).bind (·.body)).getD .skip) = c
        rw [hf]
        simp [hc]
      rw [e]; exact hs
    · rw [hc] at h
      simp only [Option.map_some, Option.getD_some, List.isEmpty_iff] at h
      rw [h] at hs
      simp at hs
  tab := by
    intro k s hs
    obtain ⟨hm, _⟩ := findSite_mem hs
    obtain ⟨f, hf, hm⟩ := List.mem_flatMap.1 hm
    have := sitesOf_sub hm
    exact ⟨fun t ht => site_of hf (this.1 t ht), fun t ht => site_of hf (this.2 t ht)⟩
theorem E_mix : E.P.follows .mixedOrders = true := by kernel_rfl
end Go.AM
namespace Go.AM
open Go Go.Proofs
noncomputable def r5_L0 (call : CallF) (fuel base : Nat) (kp : Value → M → Res2) (kr : Value → M → Res2) (kx0 : Value → Value → M → Res2) (n : Nat) : Value → Value → Value → M → Res2 :=
  Nat.rec (motive := fun _ => Value → Value → Value → M → Res2) (fun _ _ _ _ => none)
    (fun _ ih x0 x3 x5 m =>
      (k1 (mbin E .lss 3 x5 (.int .i64 400)) fun v30_9 => (kb v30_9 (k1 (mbin E .rem 3 x5 (.int .i64 2)) fun v35_10 => (k1 (mconvert E.P 5 3 x0) fun v37_11 => (k1 (mbin E .add 3 (.int .i64 1) v37_11) fun v38_12 => (kc (call base 24 [x3, v35_10, v38_12] m) (fun v39_13 m => (k1 (mbin E .neq 26 v39_13 (.int .i64 0)) fun v40_14 => (kb v40_14 (kr (.bool false) m) (k1 (mbin E .add 3 x5 (.int .i64 1)) fun v32_15 => (ih x0 x3 v32_15 m))))) (fun v m => kp v m))))) (kx0 x0 x3 m)))) n
noncomputable def r5_L2 (call : CallF) (fuel base : Nat) (kp : Value → M → Res2) (kr : Value → M → Res2) (kx2 : Value → Value → M → Res2) (n : Nat) : Value → Value → Value → M → Res2 :=
  Nat.rec (motive := fun _ => Value → Value → Value → M → Res2) (fun _ _ _ _ => none)
    (fun _ ih x0 x3 x6 m =>
      (k1 (mbin E .leq 3 x6 (.int .i64 8)) fun v61_28 => (kb v61_28 (kc (call base 27 [x3, (.int .i64 1)] m) (fun v66_29 m => (k1 (mextract 0 v66_29) fun v67_30 => (k1 (mextract 1 v66_29) fun v68_31 => (k1 (mbin E .neq 26 v68_31 (.int .i64 0)) fun v70_32 => (kb v70_32 (kr (.bool false) m) (k1 (mbin E .neq 3 v67_30 x6) fun v74_33 => (kb v74_33 (kr (.bool false) m) (kc (call base 25 [x3, (.int .i64 1), (.int .i64 0)] m) (fun v78_34 m => (k1 (mbin E .neq 26 v78_34 (.int .i64 0)) fun v79_35 => (kb v79_35 (kr (.bool false) m) (k1 (mbin E .add 3 x6 (.int .i64 1)) fun v63_36 => (ih x0 x3 v63_36 m))))) (fun v m => kp v m))))))))) (fun v m => kp v m)) (kx2 x0 x3 m)))) n
noncomputable def r5 (call : CallF) (fuel base : Nat) (x0 : Value) (m : M) : Res2 :=
  (k2 (xbuildSlice E.P m 22 2 [(0, (.int .i64 3)), (1, (.int .i64 0))]) fun v14_1 m => (kc (call base 15 [v14_1] m) (fun v15_2 m => (k1 (mextract 0 v15_2) fun v16_3 => (k1 (mextract 1 v15_2) fun v17_4 => (k1 (mbin E .neq 26 v17_4 (.int .i64 0)) fun v19_5 => (kb v19_5 (fVal (.bool false) fun v => some (.ret v, m)) (k1 (mbin E .eql 25 v16_3 (.pointer none)) fun v22_6 => (kb v22_6 (fVal (.bool false) fun v => some (.ret v, m)) (kc (call base 23 [v16_3, (.int .i64 0), (.int .i64 1), (.int .i64 1)] m) (fun v26_7 m => (k1 (mbin E .neq 26 v26_7 (.int .i64 0)) fun v27_8 => (kb v27_8 (fVal (.bool false) fun v => some (.ret v, m)) (r5_L0 call fuel base (fun v m => some (.pan v, m)) (fun y2_16 m => (fVal y2_16 fun v => some (.ret v, m))) (fun y0_17 y3_18 m => (kc (call base 24 [y3_18, (.int .i64 0), (.int .i64 1)] m) (fun v42_19 m => (k1 (mbin E .neq 26 v42_19 (.int .i64 8)) fun v43_20 => (kb v43_20 (fVal (.bool false) fun v => some (.ret v, m)) (kc (call base 23 [y3_18, (.int .i64 0), (.int .i64 1), (.int .i64 1)] m) (fun v46_21 m => (k1 (mbin E .neq 26 v46_21 (.int .i64 8)) fun v47_22 => (kb v47_22 (fVal (.bool false) fun v => some (.ret v, m)) (kc (call base 25 [y3_18, (.int .i64 0), (.int .i64 1)] m) (fun v51_23 m => (k1 (mbin E .neq 26 v51_23 (.int .i64 8)) fun v52_24 => (kb v52_24 (fVal (.bool false) fun v => some (.ret v, m)) (kc (call base 26 [y3_18] m) (fun v56_25 m => (k2 (vcall E.P base m .len [45] [v56_25]) fun v57_26 m => (k1 (mbin E .neq 3 v57_26 (.int .i64 400)) fun v58_27 => (kb v58_27 (fVal (.bool false) fun v => some (.ret v, m)) (r5_L2 call fuel base (fun v m => some (.pan v, m)) (fun y2_37 m => (fVal y2_37 fun v => some (.ret v, m))) (fun y0_38 y3_39 m => (kc (call base 27 [y3_39, (.int .i64 0)] m) (fun v83_40 m => (k1 (mextract 0 v83_40) fun v84_41 => (k1 (mextract 1 v83_40) fun v85_42 => (kc (call base 20 [y3_39, (.int .i64 0), (.int .i64 1)] m) (fun v88_43 m => (k1 (mextract 0 v88_43) fun v89_44 => (k1 (mextract 1 v88_43) fun v90_45 => (k1 (mbin E .eql 26 v85_42 (.int .i64 8)) fun v92_46 => (kb v92_46 (k1 (mbin E .eql 26 v90_45 (.int .i64 0)) fun v95_47 => (kb v95_47 (k2 (vcall E.P base m .len [22] [v89_44]) fun v99_48 m => (k1 (mbin E .eql 3 v99_48 (.int .i64 9)) fun v100_49 => (kb v100_49 (k1 (mindexAddr E.P 22 v89_44 (.int .i64 0)) fun v104_50 => (k1 (xload E.P m 3 v104_50) fun v105_51 => (k1 (mbin E .eql 3 v105_51 (.int .i64 1)) fun v106_52 => (kb v106_52 (k1 (mindexAddr E.P 22 v89_44 (.int .i64 1)) fun v110_53 => (k1 (xload E.P m 3 v110_53) fun v111_54 => (k1 (mbin E .eql 3 v111_54 (.int .i64 (-1))) fun v112_55 => (kb v112_55 (kc (call base 28 [y3_39] m) (fun v116_56 m => (k1 (mconvert E.P 5 3 y0_38) fun v118_57 => (k1 (mbin E .add 3 (.int .i64 1) v118_57) fun v119_58 => (k1 (mbin E .mul 3 (.int .i64 399) v119_58) fun v120_59 => (k1 (mbin E .add 3 (.int .i64 3) v120_59) fun v121_60 => (k1 (mbin E .eql 3 v116_56 v121_60) fun v122_61 => (kb v122_61 (kc (call base 14 [] m) (fun v125_62 m => (fVal v125_62 fun v => some (.ret v, m))) (fun v m => some (.pan v, m))) (fVal (.bool false) fun v => some (.ret v, m))))))))) (fun v m => some (.pan v, m))) (fVal (.bool false) fun v => some (.ret v, m)))))) (fVal (.bool false) fun v => some (.ret v, m)))))) (fVal (.bool false) fun v => some (.ret v, m))))) (fVal (.bool false) fun v => some (.ret v, m)))) (fVal (.bool false) fun v => some (.ret v, m))))))) (fun v m => some (.pan v, m)))))) (fun v m => some (.pan v, m)))) fuel y0_17 y3_18 (.int .i64 1) m))))) (fun v m => some (.pan v, m)))))) (fun v m => some (.pan v, m)))))) (fun v m => some (.pan v, m)))))) (fun v m => some (.pan v, m)))) fuel x0 v16_3 (.int .i64 1) m)))) (fun v m => some (.pan v, m)))))))))) (fun v m => some (.pan v, m))))
def keep5 : Keep := { region := fun i => ([[0], [0, 3, 4], [0, 3, 28], [2], [0, 3, 5], [0, 3, 5, 30], [0, 3, 5], [0, 3, 5, 40], [2], [0, 3, 59], [2], [0, 3, 6], [0, 3, 6, 61], [0, 3, 6], [0, 3, 6, 7, 8], [0, 3, 6, 80], [2], [0, 3, 10], [0, 3, 10, 11, 12], [2]] : List (List Nat))[i]?, exit := fun i => ([[0, 3], [0, 3, 5], [0, 3], [0, 3, 6]] : List (List Nat))[i]?, ret := some [2] }
noncomputable def r5_L0_R (call : CallF) (fuel base n : Nat) (vs : List Value) (m : M) (K : KT) : Res2 := match vs with
  | [x0, x3, x5] => r5_L0 call fuel base (fun v m => K (.pan v) { n := 127, l := [] } m) (fun y2 m => K .ret { n := 127, l := [(2, y2)] } m) (fun y0 y3 m => K (.exit 0) { n := 127, l := [(0, y0), (3, y3)] } m) n x0 x3 x5 m
  | _ => none
noncomputable def r5_L2_R (call : CallF) (fuel base n : Nat) (vs : List Value) (m : M) (K : KT) : Res2 := match vs with
  | [x0, x3, x6] => r5_L2 call fuel base (fun v m => K (.pan v) { n := 127, l := [] } m) (fun y2 m => K .ret { n := 127, l := [(2, y2)] } m) (fun y0 y3 m => K (.exit 2) { n := 127, l := [(0, y0), (3, y3)] } m) n x0 x3 x6 m
  | _ => none
noncomputable def lp5 (call : CallF) (fuel base : Nat) : Lp := lpsel [(0, fun T m K => kslots 127 [0, 3, 5] T fun vs => r5_L0_R call fuel base fuel vs m K), (2, fun T m K => kslots 127 [0, 3, 6] T fun vs => r5_L2_R call fuel base fuel vs m K)]
noncomputable def c5 : Code := Try.f5.body.getD .skip
theorem r5_L0_lk (call : CallF) (fuel base : Nat) : LoopsOk E call (lp5 call fuel base) fuel base 0 (loopB (blockB (seqR (seqL (seqR (seqR (seqR c5))))))) = (And (And True (And True True)) (And (And True (And (And True True) True)) True)) := by kernel_rfl
theorem r5_L0_ok (call : CallF) (fuel base : Nat) : LpOk E call (lp5 call fuel base) fuel base 0 (loopB (blockB (seqR (seqL (seqR (seqR (seqR c5))))))) := by
  refine loop_ok (kp := keep5) (hb := Eq.mpr (r5_L0_lk call fuel base) (And.intro (And.intro trivial (And.intro trivial trivial)) (And.intro (And.intro trivial (And.intro (And.intro trivial trivial) trivial)) trivial))) 127 [0, 3, 5] (fun n vs m K => r5_L0_R call fuel base n vs m K) ?_ ?_ (fun _ _ _ => rfl)
  · intro vs m K
    unfold r5_L0_R
    split <;> rfl
  · intro n vs m K hl
    match vs, hl with
    | [x0, x3, x5], _ => show _ = _; kernel_rfl
theorem r5_L2_lk (call : CallF) (fuel base : Nat) : LoopsOk E call (lp5 call fuel base) fuel base 2 (loopB (blockB (seqR (seqL (seqR (seqR (seqR (seqR (seqR c5))))))))) = (And (And True (And True True)) (And (And True (And True (And (And True True) True))) True)) := by kernel_rfl
theorem r5_L2_ok (call : CallF) (fuel base : Nat) : LpOk E call (lp5 call fuel base) fuel base 2 (loopB (blockB (seqR (seqL (seqR (seqR (seqR (seqR (seqR c5))))))))) := by
  refine loop_ok (kp := keep5) (hb := Eq.mpr (r5_L2_lk call fuel base) (And.intro (And.intro trivial (And.intro trivial trivial)) (And.intro (And.intro trivial (And.intro trivial (And.intro (And.intro trivial trivial) trivial))) trivial))) 127 [0, 3, 6] (fun n vs m K => r5_L2_R call fuel base n vs m K) ?_ ?_ (fun _ _ _ => rfl)
  · intro vs m K
    unfold r5_L2_R
    split <;> rfl
  · intro n vs m K hl
    match vs, hl with
    | [x0, x3, x6], _ => show _ = _; kernel_rfl
theorem r5_eq (call : CallF) (fuel base : Nat) (x0 : Value) (m : M) : kbody E call keep5 (lp5 call fuel base) base Try.f5 [x0] m = r5 call fuel base x0 m := by
  kernel_rfl
noncomputable def rf5 : RF := fun call fuel base args m => match args with
  | [x0] => r5 call fuel base x0 m
  | _ => none
theorem r5_lk (call : CallF) (fuel base : Nat) : LoopsOk E call (lp5 call fuel base) fuel base 0 c5 = (And True (And True (And (And True (And (And True True) True)) (And (And True (LpOk E call (lp5 call fuel base) fuel base 0 (loopB (blockB (seqR (seqL (seqR (seqR (seqR c5))))))))) (And (And True (And (And True True) True)) (And (And True (LpOk E call (lp5 call fuel base) fuel base 2 (loopB (blockB (seqR (seqL (seqR (seqR (seqR (seqR (seqR c5))))))))))) (And True (And True (And True True))))))))) := by kernel_rfl
theorem r5_fn : E.P.funcs[5]? = some Try.f5 := by kernel_rfl
theorem r5_body : Try.f5.body = some c5 := by kernel_rfl
theorem rf5_ok : RFok E 5 rf5 := by
  show RFok' E 5 rf5
  refine ⟨Try.f5, r5_fn, fun call fuel base args m r _ h => ?_⟩
  unfold rf5 at h
  split at h
  · rw [← r5_eq] at h
    exact kbody_sound (c := c5) r5_body (Eq.mpr (r5_lk call fuel base) (And.intro trivial (And.intro trivial (And.intro (And.intro trivial (And.intro (And.intro trivial trivial) trivial)) (And.intro (And.intro trivial (r5_L0_ok call fuel base)) (And.intro (And.intro trivial (And.intro (And.intro trivial trivial) trivial)) (And.intro (And.intro trivial (r5_L2_ok call fuel base)) (And.intro trivial (And.intro trivial (And.intro trivial trivial)))))))))) h
  · simp at h
end Go.AM
namespace Go.AM
open Go Go.Proofs
noncomputable def r14 (call : CallF) (fuel base : Nat) (m : M) : Res2 :=
  (k2 (xbuildSlice E.P m 22 2 [(0, (.int .i64 5)), (1, (.int .i64 0))]) fun v8_1 m => (kc (call base 15 [v8_1] m) (fun v9_2 m => (k1 (mextract 0 v9_2) fun v10_3 => (k1 (mextract 1 v9_2) fun v11_4 => (k1 (mbin E .neq 26 v11_4 (.int .i64 0)) fun v13_5 => (kb v13_5 (fVal (.bool false) fun v => some (.ret v, m)) (k1 (mbin E .eql 25 v10_3 (.pointer none)) fun v16_6 => (kb v16_6 (fVal (.bool false) fun v => some (.ret v, m)) (kc (call base 23 [v10_3, (.int .i64 0), (.int .i64 1), (.int .i64 2)] m) (fun v20_7 m => (k1 (mbin E .neq 26 v20_7 (.int .i64 0)) fun v21_8 => (kb v21_8 (fVal (.bool false) fun v => some (.ret v, m)) (kc (call base 27 [v10_3, (.int .i64 1)] m) (fun v25_9 m => (k1 (mextract 0 v25_9) fun v26_10 => (k1 (mextract 1 v25_9) fun v27_11 => (k1 (mbin E .neq 26 v27_11 (.int .i64 0)) fun v29_12 => (kb v29_12 (fVal (.bool false) fun v => some (.ret v, m)) (k1 (mbin E .neq 3 v26_10 (.int .i64 1)) fun v32_13 => (kb v32_13 (fVal (.bool false) fun v => some (.ret v, m)) (kc (call base 25 [v10_3, (.int .i64 0), (.int .i64 1)] m) (fun v36_14 m => (k1 (mbin E .neq 26 v36_14 (.int .i64 0)) fun v37_15 => (kb v37_15 (fVal (.bool false) fun v => some (.ret v, m)) (kc (call base 25 [v10_3, (.int .i64 1), (.int .i64 0)] m) (fun v41_16 m => (k1 (mbin E .neq 26 v41_16 (.int .i64 0)) fun v42_17 => (kb v42_17 (fVal (.bool false) fun v => some (.ret v, m)) (kc (call base 25 [v10_3, (.int .i64 0), (.int .i64 1)] m) (fun v46_18 m => (k1 (mbin E .neq 26 v46_18 (.int .i64 0)) fun v47_19 => (kb v47_19 (fVal (.bool false) fun v => some (.ret v, m)) (kc (call base 31 [v10_3, (.int .i64 1)] m) (fun v51_20 m => (k1 (mextract 0 v51_20) fun v52_21 => (k1 (mextract 1 v51_20) fun v53_22 => (k2 (xalloc E.P m 62) fun v5_23 m => (ks (xstore E.P base m 62 v5_23 v52_21) fun m => (k1 (mbin E .eql 26 v53_22 (.int .i64 0)) fun v55_24 => (kb v55_24 (k1 (mfieldAddr E.P 62 v5_23 0) fun v57_25 => (k1 (xload E.P m 22 v57_25) fun v58_26 => (k2 (xbuildSlice E.P m 22 2 [(0, (.int .i64 3)), (1, (.int .i64 0))]) fun v59_27 m => (kc (call base 17 [v58_26, v59_27] m) (fun v60_28 m => (kb v60_28 (k1 (mfieldAddr E.P 62 v5_23 1) fun v63_29 => (k1 (xload E.P m 60 v63_29) fun v64_30 => (k2 (vcall E.P base m .len [60] [v64_30]) fun v65_31 m => (k1 (mbin E .eql 3 v65_31 (.int .i64 2)) fun v66_32 => (kb v66_32 (k1 (mfieldAddr E.P 62 v5_23 1) fun v69_33 => (k1 (xload E.P m 60 v69_33) fun v70_34 => (k1 (mindexAddr E.P 60 v70_34 (.int .i64 0)) fun v71_35 => (k1 (xload E.P m 80 v71_35) fun v72_36 => (k2 (vcall E.P base m .len [80] [v72_36]) fun v73_37 m => (k1 (mbin E .eql 3 v73_37 (.int .i64 2)) fun v74_38 => (kb v74_38 (k1 (mfieldAddr E.P 62 v5_23 1) fun v77_39 => (k1 (xload E.P m 60 v77_39) fun v78_40 => (k1 (mindexAddr E.P 60 v78_40 (.int .i64 0)) fun v79_41 => (k1 (xload E.P m 80 v79_41) fun v80_42 => (k1 (mindexAddr E.P 80 v80_42 (.int .i64 1)) fun v81_43 => (k1 (xload E.P m 22 v81_43) fun v82_44 => (k2 (xbuildSlice E.P m 22 1 [(0, (.int .i64 2))]) fun v83_45 m => (kc (call base 17 [v82_44, v83_45] m) (fun v84_46 m => (fVal v84_46 fun v => some (.ret v, m))) (fun v m => some (.pan v, m)))))))))) (fVal (.bool false) fun v => some (.ret v, m))))))))) (fVal (.bool false) fun v => some (.ret v, m))))))) (fVal (.bool false) fun v => some (.ret v, m)))) (fun v m => some (.pan v, m)))))) (fVal (.bool false) fun v => some (.ret v, m))))))))) (fun v m => some (.pan v, m)))))) (fun v m => some (.pan v, m)))))) (fun v m => some (.pan v, m)))))) (fun v m => some (.pan v, m)))))))))) (fun v m => some (.pan v, m)))))) (fun v m => some (.pan v, m)))))))))) (fun v m => some (.pan v, m))))
def keep14 : Keep := { region := fun i => ([[], [1, 2], [1, 22], [0], [1, 3, 4], [1, 48], [0], [5, 6], [0]] : List (List Nat))[i]?, exit := fun i => ([] : List (List Nat))[i]?, ret := some [0] }
noncomputable def lp14 (call : CallF) (fuel base : Nat) : Lp := lpsel []
noncomputable def c14 : Code := Try.f14.body.getD .skip
theorem r14_eq (call : CallF) (fuel base : Nat) (m : M) : kbody E call keep14 (lp14 call fuel base) base Try.f14 [] m = r14 call fuel base  m := by
  kernel_rfl
noncomputable def rf14 : RF := fun call fuel base args m => match args with
  | [] => r14 call fuel base  m
  | _ => none
theorem r14_lk (call : CallF) (fuel base : Nat) : LoopsOk E call (lp14 call fuel base) fuel base 0 c14 = (And True (And True (And (And True (And (And True True) True)) (And True (And (And True (And (And True True) True)) (And True (And True True))))))) := by kernel_rfl
theorem r14_fn : E.P.funcs[14]? = some Try.f14 := by kernel_rfl
theorem r14_body : Try.f14.body = some c14 := by kernel_rfl
theorem rf14_ok : RFok E 14 rf14 := by
  show RFok' E 14 rf14
  refine ⟨Try.f14, r14_fn, fun call fuel base args m r _ h => ?_⟩
  unfold rf14 at h
  split at h
  · rw [← r14_eq] at h
    exact kbody_sound (c := c14) r14_body (Eq.mpr (r14_lk call fuel base) (And.intro trivial (And.intro trivial (And.intro (And.intro trivial (And.intro (And.intro trivial trivial) trivial)) (And.intro trivial (And.intro (And.intro trivial (And.intro (And.intro trivial trivial) trivial)) (And.intro trivial (And.intro trivial trivial)))))))) h
  · simp at h
end Go.AM
namespace Go.AM
open Go Go.Proofs
noncomputable def r15 (call : CallF) (fuel base : Nat) (x0 : Value) (m : M) : Res2 :=
  (k2 (vcall E.P base m .len [22] [x0]) fun v5_1 m => (kc (call base 49 [v5_1] m) (fun v6_2 m => (k1 (mun .not v6_2) fun v7_3 => (kb v7_3 (some (.ret (.tuple #[(.pointer none), (.int .i64 2)]), m)) (kc (call base 50 [x0, (.func (.func 51) #[] #[])] m) (fun v10_4 m => (kb v10_4 (some (.ret (.tuple #[(.pointer none), (.int .i64 2)]), m)) (kc (call base 52 [x0] m) (fun v13_5 m => (some (.ret (.tuple #[v13_5, (.int .i64 0)]), m))) (fun v m => some (.pan v, m))))) (fun v m => some (.pan v, m)))))) (fun v m => some (.pan v, m))))
def keep15 : Keep := { region := fun i => ([[0], [0, 11], [2, 3], [2, 3]] : List (List Nat))[i]?, exit := fun i => ([] : List (List Nat))[i]?, ret := some [2, 3] }
noncomputable def lp15 (call : CallF) (fuel base : Nat) : Lp := lpsel []
noncomputable def c15 : Code := Try.f15.body.getD .skip
theorem r15_eq (call : CallF) (fuel base : Nat) (x0 : Value) (m : M) : kbody E call keep15 (lp15 call fuel base) base Try.f15 [x0] m = r15 call fuel base x0 m := by
  kernel_rfl
noncomputable def rf15 : RF := fun call fuel base args m => match args with
  | [x0] => r15 call fuel base x0 m
  | _ => none
theorem r15_lk (call : CallF) (fuel base : Nat) : LoopsOk E call (lp15 call fuel base) fuel base 0 c15 = (And True (And (And True (And (And True True) True)) (And True True))) := by kernel_rfl
theorem r15_fn : E.P.funcs[15]? = some Try.f15 := by kernel_rfl
theorem r15_body : Try.f15.body = some c15 := by kernel_rfl
theorem rf15_ok : RFok E 15 rf15 := by
  show RFok' E 15 rf15
  refine ⟨Try.f15, r15_fn, fun call fuel base args m r _ h => ?_⟩
  unfold rf15 at h
  split at h
  · rw [← r15_eq] at h
    exact kbody_sound (c := c15) r15_body (Eq.mpr (r15_lk call fuel base) (And.intro trivial (And.intro (And.intro trivial (And.intro (And.intro trivial trivial) trivial)) (And.intro trivial trivial)))) h
  · simp at h
end Go.AM
namespace Go.AM
open Go Go.Proofs
noncomputable def r17_L0 (call : CallF) (fuel base : Nat) (kr : Value → M → Res2) (kx0 : M → Res2) (n : Nat) : Value → Value → Value → M → Res2 :=
  Nat.rec (motive := fun _ => Value → Value → Value → M → Res2) (fun _ _ _ _ => none)
    (fun _ ih x0 x1 x5 m =>
      (k2 (vcall E.P base m .len [22] [x0]) fun v13_4 m => (k1 (mbin E .lss 3 x5 v13_4) fun v14_5 => (kb v14_5 (k1 (mindexAddr E.P 22 x0 x5) fun v19_6 => (k1 (xload E.P m 3 v19_6) fun v20_7 => (k1 (mindexAddr E.P 22 x1 x5) fun v23_8 => (k1 (xload E.P m 3 v23_8) fun v24_9 => (k1 (mbin E .neq 3 v20_7 v24_9) fun v25_10 => (kb v25_10 (kr (.bool false) m) (k1 (mbin E .add 3 x5 (.int .i64 1)) fun v16_11 => (ih x0 x1 v16_11 m)))))))) (kx0 m))))) n
noncomputable def r17 (call : CallF) (fuel base : Nat) (x0 : Value) (x1 : Value) (m : M) : Res2 :=
  (k2 (vcall E.P base m .len [22] [x0]) fun v7_1 m => (k2 (vcall E.P base m .len [22] [x1]) fun v9_2 m => (k1 (mbin E .neq 3 v7_1 v9_2) fun v10_3 => (kb v10_3 (fVal (.bool false) fun v => some (.ret v, m)) (r17_L0 call fuel base (fun y4_12 m => (fVal y4_12 fun v => some (.ret v, m))) (fun m => (fVal (.bool true) fun v => some (.ret v, m))) fuel x0 x1 (.int .i64 0) m)))))
def keep17 : Keep := { region := fun i => ([[0, 1], [0, 1, 10], [4], [0, 1, 5], [0, 1, 5, 14], [0, 1, 5], [0, 1, 5, 25], [4], [4]] : List (List Nat))[i]?, exit := fun i => ([[], [0, 1, 5]] : List (List Nat))[i]?, ret := some [4] }
noncomputable def r17_L0_R (call : CallF) (fuel base n : Nat) (vs : List Value) (m : M) (K : KT) : Res2 := match vs with
  | [x0, x1, x5] => r17_L0 call fuel base (fun y4 m => K .ret { n := 26, l := [(4, y4)] } m) (fun m => K (.exit 0) { n := 26, l := [] } m) n x0 x1 x5 m
  | _ => none
noncomputable def lp17 (call : CallF) (fuel base : Nat) : Lp := lpsel [(0, fun T m K => kslots 26 [0, 1, 5] T fun vs => r17_L0_R call fuel base fuel vs m K)]
noncomputable def c17 : Code := Try.f17.body.getD .skip
theorem r17_L0_lk (call : CallF) (fuel base : Nat) : LoopsOk E call (lp17 call fuel base) fuel base 0 (loopB (blockB (seqR (seqL (seqR (seqR c17)))))) = (And (And True (And True True)) (And (And True (And (And True True) True)) True)) := by kernel_rfl
theorem r17_L0_ok (call : CallF) (fuel base : Nat) : LpOk E call (lp17 call fuel base) fuel base 0 (loopB (blockB (seqR (seqL (seqR (seqR c17)))))) := by
  refine loop_ok (kp := keep17) (hb := Eq.mpr (r17_L0_lk call fuel base) (And.intro (And.intro trivial (And.intro trivial trivial)) (And.intro (And.intro trivial (And.intro (And.intro trivial trivial) trivial)) trivial))) 26 [0, 1, 5] (fun n vs m K => r17_L0_R call fuel base n vs m K) ?_ ?_ (fun _ _ _ => rfl)
  · intro vs m K
    unfold r17_L0_R
    split <;> rfl
  · intro n vs m K hl
    match vs, hl with
    | [x0, x1, x5], _ => show _ = _; kernel_rfl
theorem r17_eq (call : CallF) (fuel base : Nat) (x0 : Value) (x1 : Value) (m : M) : kbody E call keep17 (lp17 call fuel base) base Try.f17 [x0, x1] m = r17 call fuel base x0 x1 m := by
  kernel_rfl
noncomputable def rf17 : RF := fun call fuel base args m => match args with
  | [x0, x1] => r17 call fuel base x0 x1 m
  | _ => none
theorem r17_lk (call : CallF) (fuel base : Nat) : LoopsOk E call (lp17 call fuel base) fuel base 0 c17 = (And True (And (And True (And (And True True) True)) (And (And True (LpOk E call (lp17 call fuel base) fuel base 0 (loopB (blockB (seqR (seqL (seqR (seqR c17)))))))) (And True True)))) := by kernel_rfl
theorem r17_fn : E.P.funcs[17]? = some Try.f17 := by kernel_rfl
theorem r17_body : Try.f17.body = some c17 := by kernel_rfl
theorem rf17_ok : RFok E 17 rf17 := by
  show RFok' E 17 rf17
  refine ⟨Try.f17, r17_fn, fun call fuel base args m r _ h => ?_⟩
  unfold rf17 at h
  split at h
  · rw [← r17_eq] at h
    exact kbody_sound (c := c17) r17_body (Eq.mpr (r17_lk call fuel base) (And.intro trivial (And.intro (And.intro trivial (And.intro (And.intro trivial trivial) trivial)) (And.intro (And.intro trivial (r17_L0_ok call fuel base)) (And.intro trivial trivial))))) h
  · simp at h
end Go.AM
namespace Go.AM
open Go Go.Proofs
noncomputable def r20_L0 (call : CallF) (fuel base : Nat) (kp : Value → M → Res2) (kx0 : Value → M → Res2) (n : Nat) : Value → Value → Value → Value → M → Res2 :=
  Nat.rec (motive := fun _ => Value → Value → Value → Value → M → Res2) (fun _ _ _ _ _ => none)
    (fun _ ih x9 x28 x29 x30 m =>
      (k1 (mbin E .lss 3 x30 x29) fun v31_11 => (kb v31_11 (k1 (mindexAddr E.P 103 x28 x30) fun v32_12 => (k1 (xload E.P m 106 v32_12) fun v33_13 => (kc (kv call base (imeth 0 v33_13) [] m) (fun v36_14 m => (k2 (xbuildSlice E.P m 22 1 [(0, v36_14)]) fun v37_15 m => (k2 (vcall E.P base m .append [22, 22] [x9, v37_15]) fun v38_16 m => (k1 (mbin E .add 3 x30 (.int .i64 1)) fun v39_17 => (ih v38_16 x28 x29 v39_17 m))))) (fun v m => kp v m)))) (kx0 x9 m)))) n
noncomputable def r20 (call : CallF) (fuel base : Nat) (x0 : Value) (x1 : Value) (x2 : Value) (m : M) : Res2 :=
  (kc (call base 59 [x0, x1, x2] m) (fun v15_1 m => (k1 (mbin E .neq 26 v15_1 (.int .i64 0)) fun v17_2 => (kb v17_2 (some (.ret (.tuple #[(.slice none 0 0), v15_1]), m)) (k1 (mnil x0) fun v20_3 => (k1 (mfieldAddr E.P 57 v20_3 1) fun v21_4 => (k1 (xload E.P m 54 v21_4) fun v22_5 => (k1 (mindexAddr E.P 54 v22_5 x1) fun v24_6 => (k1 (xload E.P m 104 v24_6) fun v25_7 => (k1 (mindexAddr E.P 104 v25_7 x2) fun v27_8 => (k1 (xload E.P m 103 v27_8) fun v28_9 => (k2 (vcall E.P base m .len [103] [v28_9]) fun v29_10 m => (r20_L0 call fuel base (fun v m => some (.pan v, m)) (fun y9_18 m => (some (.ret (.tuple #[y9_18, (.int .i64 0)]), m))) fuel (.slice none 0 0) v28_9 v29_10 (.int .i64 0) m)))))))))))) (fun v m => some (.pan v, m)))
def keep20 : Keep := { region := fun i => ([[0, 1, 2], [0, 1, 2, 8], [0, 1, 2, 8, 17], [6, 7], [0, 1, 2, 9], [9, 28, 29, 30], [9, 28, 29, 30, 31], [9, 11, 28, 29, 30], [9, 28, 29, 30], [9, 28, 29, 30], [6, 7]] : List (List Nat))[i]?, exit := fun i => ([[9], [9, 28, 29, 30]] : List (List Nat))[i]?, ret := some [6, 7] }
noncomputable def r20_L0_R (call : CallF) (fuel base n : Nat) (vs : List Value) (m : M) (K : KT) : Res2 := match vs with
  | [x9, x28, x29, x30] => r20_L0 call fuel base (fun v m => K (.pan v) { n := 41, l := [] } m) (fun y9 m => K (.exit 0) { n := 41, l := [(9, y9)] } m) n x9 x28 x29 x30 m
  | _ => none
noncomputable def lp20 (call : CallF) (fuel base : Nat) : Lp := lpsel [(0, fun T m K => kslots 41 [9, 28, 29, 30] T fun vs => r20_L0_R call fuel base fuel vs m K)]
noncomputable def c20 : Code := Try.f20.body.getD .skip
theorem r20_L0_lk (call : CallF) (fuel base : Nat) : LoopsOk E call (lp20 call fuel base) fuel base 0 (loopB (blockB (seqR (seqL (seqR (seqR (seqR c20))))))) = (And True (And (And True True) (And (And True True) True))) := by kernel_rfl
theorem r20_L0_ok (call : CallF) (fuel base : Nat) : LpOk E call (lp20 call fuel base) fuel base 0 (loopB (blockB (seqR (seqL (seqR (seqR (seqR c20))))))) := by
  refine loop_ok (kp := keep20) (hb := Eq.mpr (r20_L0_lk call fuel base) (And.intro trivial (And.intro (And.intro trivial trivial) (And.intro (And.intro trivial trivial) trivial)))) 41 [9, 28, 29, 30] (fun n vs m K => r20_L0_R call fuel base n vs m K) ?_ ?_ (fun _ _ _ => rfl)
  · intro vs m K
    unfold r20_L0_R
    split <;> rfl
  · intro n vs m K hl
    match vs, hl with
    | [x9, x28, x29, x30], _ => show _ = _; kernel_rfl
theorem r20_eq (call : CallF) (fuel base : Nat) (x0 : Value) (x1 : Value) (x2 : Value) (m : M) : kbody E call keep20 (lp20 call fuel base) base Try.f20 [x0, x1, x2] m = r20 call fuel base x0 x1 x2 m := by
  kernel_rfl
noncomputable def rf20 : RF := fun call fuel base args m => match args with
  | [x0, x1, x2] => r20 call fuel base x0 x1 x2 m
  | _ => none
theorem r20_lk (call : CallF) (fuel base : Nat) : LoopsOk E call (lp20 call fuel base) fuel base 0 c20 = (And True (And (And True (And True (And (And True True) True))) (And True (And (And True (LpOk E call (lp20 call fuel base) fuel base 0 (loopB (blockB (seqR (seqL (seqR (seqR (seqR c20))))))))) (And True True))))) := by kernel_rfl
theorem r20_fn : E.P.funcs[20]? = some Try.f20 := by kernel_rfl
theorem r20_body : Try.f20.body = some c20 := by kernel_rfl
theorem rf20_ok : RFok E 20 rf20 := by
  show RFok' E 20 rf20
  refine ⟨Try.f20, r20_fn, fun call fuel base args m r _ h => ?_⟩
  unfold rf20 at h
  split at h
  · rw [← r20_eq] at h
    exact kbody_sound (c := c20) r20_body (Eq.mpr (r20_lk call fuel base) (And.intro trivial (And.intro (And.intro trivial (And.intro trivial (And.intro (And.intro trivial trivial) trivial))) (And.intro trivial (And.intro (And.intro trivial (r20_L0_ok call fuel base)) (And.intro trivial trivial)))))) h
  · simp at h
end Go.AM
namespace Go.AM
open Go Go.Proofs
noncomputable def r23 (call : CallF) (fuel base : Nat) (x0 : Value) (x1 : Value) (x2 : Value) (x3 : Value) (m : M) : Res2 :=
  (kc (call base 59 [x0, x1, x2] m) (fun v13_1 m => (k1 (mbin E .neq 26 v13_1 (.int .i64 0)) fun v15_2 => (kb v15_2 (fVal v13_1 fun v => some (.ret v, m)) (kc (call base 65 [x3] m) (fun v18_3 m => (k1 (mun .not v18_3) fun v19_4 => (kb v19_4 (fVal (.int .i64 2) fun v => some (.ret v, m)) (k1 (mnil x0) fun v21_5 => (k1 (mfieldAddr E.P 57 v21_5 0) fun v22_6 => (k1 (xload E.P m 53 v22_6) fun v23_7 => (k1 (mindexAddr E.P 53 v23_7 x1) fun v25_8 => (k1 (mfieldAddr E.P 114 v25_8 0) fun v26_9 => (k1 (xload E.P m 3 v26_9) fun v27_10 => (k1 (mbin E .lss 3 v27_10 x3) fun v29_11 => (kb v29_11 (fVal (.int .i64 10) fun v => some (.ret v, m)) (kc (call base 66 [x0] m) (fun v31_12 m => (kb v31_12 (fVal (.int .i64 8) fun v => some (.ret v, m)) (kc (call base 67 [x0, x1, x2, x3] m) (fun v36_13 m => (fVal (.int .i64 0) fun v => some (.ret v, m))) (fun v m => some (.pan v, m))))) (fun v m => some (.pan v, m)))))))))))))) (fun v m => some (.pan v, m)))))) (fun v m => some (.pan v, m)))
def keep23 : Keep := { region := fun i => ([[0, 1, 2, 3], [0, 1, 2, 3, 9], [0, 1, 2, 3, 9, 15], [8], [0, 1, 2, 3, 19], [8], [0, 1, 2, 3, 29], [8], [0, 1, 2, 3, 31], [8], [], [8]] : List (List Nat))[i]?, exit := fun i => ([] : List (List Nat))[i]?, ret := some [8] }
noncomputable def lp23 (call : CallF) (fuel base : Nat) : Lp := lpsel []
noncomputable def c23 : Code := Try.f23.body.getD .skip
theorem r23_eq (call : CallF) (fuel base : Nat) (x0 : Value) (x1 : Value) (x2 : Value) (x3 : Value) (m : M) : kbody E call keep23 (lp23 call fuel base) base Try.f23 [x0, x1, x2, x3] m = r23 call fuel base x0 x1 x2 x3 m := by
  kernel_rfl
noncomputable def rf23 : RF := fun call fuel base args m => match args with
  | [x0, x1, x2, x3] => r23 call fuel base x0 x1 x2 x3 m
  | _ => none
theorem r23_lk (call : CallF) (fuel base : Nat) : LoopsOk E call (lp23 call fuel base) fuel base 0 c23 = (And True (And (And True (And True (And (And True True) True))) (And (And True (And (And True True) True)) (And (And True (And (And True True) True)) (And (And True (And (And True True) True)) (And True (And True True))))))) := by kernel_rfl
theorem r23_fn : E.P.funcs[23]? = some Try.f23 := by kernel_rfl
theorem r23_body : Try.f23.body = some c23 := by kernel_rfl
theorem rf23_ok : RFok E 23 rf23 := by
  show RFok' E 23 rf23
  refine ⟨Try.f23, r23_fn, fun call fuel base args m r _ h => ?_⟩
  unfold rf23 at h
  split at h
  · rw [← r23_eq] at h
    exact kbody_sound (c := c23) r23_body (Eq.mpr (r23_lk call fuel base) (And.intro trivial (And.intro (And.intro trivial (And.intro trivial (And.intro (And.intro trivial trivial) trivial))) (And.intro (And.intro trivial (And.intro (And.intro trivial trivial) trivial)) (And.intro (And.intro trivial (And.intro (And.intro trivial trivial) trivial)) (And.intro (And.intro trivial (And.intro (And.intro trivial trivial) trivial)) (And.intro trivial (And.intro trivial trivial)))))))) h
  · simp at h
end Go.AM
namespace Go.AM
open Go Go.Proofs
noncomputable def r24 (call : CallF) (fuel base : Nat) (x0 : Value) (x1 : Value) (x2 : Value) (m : M) : Res2 :=
  (kc (call base 68 [x0] m) (fun v8_1 m => (kb v8_1 (fVal (.int .i64 1) fun v => some (.ret v, m)) (kc (call base 69 [x0, x1] m) (fun v11_2 m => (k1 (mun .not v11_2) fun v12_3 => (kb v12_3 (fVal (.int .i64 2) fun v => some (.ret v, m)) (kc (call base 65 [x2] m) (fun v15_4 m => (k1 (mun .not v15_4) fun v16_5 => (kb v16_5 (fVal (.int .i64 2) fun v => some (.ret v, m)) (kc (call base 66 [x0] m) (fun v19_6 m => (kb v19_6 (fVal (.int .i64 8) fun v => some (.ret v, m)) (kc (call base 70 [x0, x1, x2] m) (fun v23_7 m => (fVal (.int .i64 0) fun v => some (.ret v, m))) (fun v m => some (.pan v, m))))) (fun v m => some (.pan v, m)))))) (fun v m => some (.pan v, m)))))) (fun v m => some (.pan v, m))))) (fun v m => some (.pan v, m)))
def keep24 : Keep := { region := fun i => ([[0, 1, 2], [0, 1, 2, 8], [6], [0, 1, 2, 17], [6], [0, 1, 2, 19], [6], [], [6]] : List (List Nat))[i]?, exit := fun i => ([] : List (List Nat))[i]?, ret := some [6] }
noncomputable def lp24 (call : CallF) (fuel base : Nat) : Lp := lpsel []
noncomputable def c24 : Code := Try.f24.body.getD .skip
theorem r24_eq (call : CallF) (fuel base : Nat) (x0 : Value) (x1 : Value) (x2 : Value) (m : M) : kbody E call keep24 (lp24 call fuel base) base Try.f24 [x0, x1, x2] m = r24 call fuel base x0 x1 x2 m := by
  kernel_rfl
noncomputable def rf24 : RF := fun call fuel base args m => match args with
  | [x0, x1, x2] => r24 call fuel base x0 x1 x2 m
  | _ => none
theorem r24_lk (call : CallF) (fuel base : Nat) : LoopsOk E call (lp24 call fuel base) fuel base 0 c24 = (And True (And (And True (And (And True True) True)) (And (And True (And (And True True) True)) (And (And True (And (And True True) True)) (And True (And True True)))))) := by kernel_rfl
theorem r24_fn : E.P.funcs[24]? = some Try.f24 := by kernel_rfl
theorem r24_body : Try.f24.body = some c24 := by kernel_rfl
theorem rf24_ok : RFok E 24 rf24 := by
  show RFok' E 24 rf24
  refine ⟨Try.f24, r24_fn, fun call fuel base args m r _ h => ?_⟩
  unfold rf24 at h
  split at h
  · rw [← r24_eq] at h
    exact kbody_sound (c := c24) r24_body (Eq.mpr (r24_lk call fuel base) (And.intro trivial (And.intro (And.intro trivial (And.intro (And.intro trivial trivial) trivial)) (And.intro (And.intro trivial (And.intro (And.intro trivial trivial) trivial)) (And.intro (And.intro trivial (And.intro (And.intro trivial trivial) trivial)) (And.intro trivial (And.intro trivial trivial))))))) h
  · simp at h
end Go.AM
namespace Go.AM
open Go Go.Proofs
noncomputable def r25 (call : CallF) (fuel base : Nat) (x0 : Value) (x1 : Value) (x2 : Value) (m : M) : Res2 :=
  (kc (call base 59 [x0, x1, x2] m) (fun v14_1 m => (k1 (mbin E .neq 26 v14_1 (.int .i64 0)) fun v16_2 => (kb v16_2 (fVal v14_1 fun v => some (.ret v, m)) (k1 (mnil x0) fun v19_3 => (k1 (mfieldAddr E.P 57 v19_3 1) fun v20_4 => (k1 (xload E.P m 54 v20_4) fun v21_5 => (k1 (mindexAddr E.P 54 v21_5 x1) fun v23_6 => (k1 (xload E.P m 104 v23_6) fun v24_7 => (k1 (mindexAddr E.P 104 v24_7 x2) fun v26_8 => (k1 (xload E.P m 103 v26_8) fun v27_9 => (k2 (vcall E.P base m .len [103] [v27_9]) fun v29_10 m => (k1 (mbin E .eql 3 v29_10 (.int .i64 0)) fun v30_11 => (kb v30_11 (fVal (.int .i64 6) fun v => some (.ret v, m)) (k1 (mindexAddr E.P 103 v27_9 (.int .i64 0)) fun v32_12 => (k1 (xload E.P m 106 v32_12) fun v33_13 => (k1 (mtassert E.P 117 true v33_13) fun v34_14 => (k1 (mextract 1 v34_14) fun v35_15 => (k1 (mextract 0 v34_14) fun v36_16 => (kb v35_15 (k2 (xalloc E.P m 117) fun v9_17 m => (ks (xstore E.P base m 117 v9_17 v36_16) fun m => (kc (call base 66 [x0] m) (fun v38_18 m => (kb v38_18 (fVal (.int .i64 8) fun v => some (.ret v, m)) (k1 (xload E.P m 117 v9_17) fun v42_19 => (kc (call base 71 [x0, x1, x2, v42_19] m) (fun v43_20 m => (k1 (mnil x0) fun v53_21 => (k1 (mfieldAddr E.P 57 v53_21 1) fun v54_22 => (k1 (xload E.P m 54 v54_22) fun v55_23 => (k1 (mindexAddr E.P 54 v55_23 x1) fun v57_24 => (k1 (xload E.P m 104 v57_24) fun v58_25 => (k1 (mslice E.P m 103 v27_9 (some (.int .i64 1)) none none) fun v61_26 => (k1 (mindexAddr E.P 104 v58_25 x2) fun v62_27 => (ks (xstore E.P base m 103 v62_27 v61_26) fun m => (fVal (.int .i64 0) fun v => some (.ret v, m))))))))))) (fun v m => some (.pan v, m)))))) (fun v m => some (.pan v, m))))) (k1 (mtassert E.P 120 true v33_13) fun v44_28 => (k1 (mextract 1 v44_28) fun v45_29 => (k1 (mextract 0 v44_28) fun v46_30 => (kb v45_29 (k2 (xalloc E.P m 120) fun v10_31 m => (ks (xstore E.P base m 120 v10_31 v46_30) fun m => (k1 (xload E.P m 120 v10_31) fun v50_32 => (kc (call base 72 [x0, x1, x2, v50_32] m) (fun v51_33 m => (k1 (mnil x0) fun v53_34 => (k1 (mfieldAddr E.P 57 v53_34 1) fun v54_35 => (k1 (xload E.P m 54 v54_35) fun v55_36 => (k1 (mindexAddr E.P 54 v55_36 x1) fun v57_37 => (k1 (xload E.P m 104 v57_37) fun v58_38 => (k1 (mslice E.P m 103 v27_9 (some (.int .i64 1)) none none) fun v61_39 => (k1 (mindexAddr E.P 104 v58_38 x2) fun v62_40 => (ks (xstore E.P base m 103 v62_40 v61_39) fun m => (fVal (.int .i64 0) fun v => some (.ret v, m))))))))))) (fun v m => some (.pan v, m)))))) (k1 (mnil x0) fun v53_41 => (k1 (mfieldAddr E.P 57 v53_41 1) fun v54_42 => (k1 (xload E.P m 54 v54_42) fun v55_43 => (k1 (mindexAddr E.P 54 v55_43 x1) fun v57_44 => (k1 (xload E.P m 104 v57_44) fun v58_45 => (k1 (mslice E.P m 103 v27_9 (some (.int .i64 1)) none none) fun v61_46 => (k1 (mindexAddr E.P 104 v58_45 x2) fun v62_47 => (ks (xstore E.P base m 103 v62_47 v61_46) fun m => (fVal (.int .i64 0) fun v => some (.ret v, m))))))))))))))))))))))))))))))))) (fun v m => some (.pan v, m)))
def keep25 : Keep := { region := fun i => ([[0, 1, 2], [0, 1, 2, 7], [0, 1, 2, 7, 16], [6], [0, 1, 2, 8], [0, 1, 2, 8, 30], [6], [0, 1, 2, 8, 33], [0, 1, 2, 8, 33, 35, 36], [0, 1, 2, 8, 9], [0, 1, 2, 8, 9, 38], [6], [0, 1, 2, 8], [0, 1, 2, 8, 45, 46], [0, 1, 2, 8, 10], [0, 1, 2, 8], [], [6]] : List (List Nat))[i]?, exit := fun i => ([[0, 1, 2, 8]] : List (List Nat))[i]?, ret := some [6] }
noncomputable def lp25 (call : CallF) (fuel base : Nat) : Lp := lpsel []
noncomputable def c25 : Code := Try.f25.body.getD .skip
theorem r25_eq (call : CallF) (fuel base : Nat) (x0 : Value) (x1 : Value) (x2 : Value) (m : M) : kbody E call keep25 (lp25 call fuel base) base Try.f25 [x0, x1, x2] m = r25 call fuel base x0 x1 x2 m := by
  kernel_rfl
noncomputable def rf25 : RF := fun call fuel base args m => match args with
  | [x0, x1, x2] => r25 call fuel base x0 x1 x2 m
  | _ => none
theorem r25_lk (call : CallF) (fuel base : Nat) : LoopsOk E call (lp25 call fuel base) fuel base 0 c25 = (And True (And (And True (And True (And (And True True) True))) (And True (And (And True (And (And True True) True)) (And (And True (And True (And (And True (And (And True (And (And True True) True)) True)) (And True (And (And True True) True))))) (And True (And True True))))))) := by kernel_rfl
theorem r25_fn : E.P.funcs[25]? = some Try.f25 := by kernel_rfl
theorem r25_body : Try.f25.body = some c25 := by kernel_rfl
theorem rf25_ok : RFok E 25 rf25 := by
  show RFok' E 25 rf25
  refine ⟨Try.f25, r25_fn, fun call fuel base args m r _ h => ?_⟩
  unfold rf25 at h
  split at h
  · rw [← r25_eq] at h
    exact kbody_sound (c := c25) r25_body (Eq.mpr (r25_lk call fuel base) (And.intro trivial (And.intro (And.intro trivial (And.intro trivial (And.intro (And.intro trivial trivial) trivial))) (And.intro trivial (And.intro (And.intro trivial (And.intro (And.intro trivial trivial) trivial)) (And.intro (And.intro trivial (And.intro trivial (And.intro (And.intro trivial (And.intro (And.intro trivial (And.intro (And.intro trivial trivial) trivial)) trivial)) (And.intro trivial (And.intro (And.intro trivial trivial) trivial))))) (And.intro trivial (And.intro trivial trivial)))))))) h
  · simp at h
end Go.AM
namespace Go.AM
open Go Go.Proofs
noncomputable def r26_L0 (call : CallF) (fuel base : Nat) (kp : Value → M → Res2) (kx0 : Value → M → Res2) (n : Nat) : Value → Value → Value → M → Res2 :=
  Nat.rec (motive := fun _ => Value → Value → Value → M → Res2) (fun _ _ _ _ => none)
    (fun _ ih x3 x13 x14 m =>
      (k1 (mbin E .lss 3 x14 x13) fun v15_7 => (kb v15_7 (k1 (mindexAddr E.P 45 x3 x14) fun v21_8 => (k1 (mfieldAddr E.P 72 v21_8 4) fun v22_9 => (k1 (xload E.P m 22 v22_9) fun v23_10 => (kc (call base 74 [v23_10] m) (fun v24_11 m => (k1 (mindexAddr E.P 45 x3 x14) fun v25_12 => (k1 (mfieldAddr E.P 72 v25_12 4) fun v26_13 => (ks (xstore E.P base m 22 v26_13 v24_11) fun m => (k1 (mbin E .add 3 x14 (.int .i64 1)) fun v27_14 => (ih x3 x13 v27_14 m)))))) (fun v m => kp v m))))) (kx0 x3 m)))) n
noncomputable def r26 (call : CallF) (fuel base : Nat) (x0 : Value) (m : M) : Res2 :=
  (kc (call base 68 [x0] m) (fun v6_1 m => (kb v6_1 (fVal (.slice none 0 0) fun v => some (.ret v, m)) (k1 (mnil x0) fun v8_2 => (k1 (mfieldAddr E.P 57 v8_2 2) fun v9_3 => (k1 (xload E.P m 45 v9_3) fun v10_4 => (kc (call base 73 [v10_4] m) (fun v11_5 m => (k2 (vcall E.P base m .len [45] [v11_5]) fun v13_6 m => (r26_L0 call fuel base (fun v m => some (.pan v, m)) (fun y3_15 m => (fVal y3_15 fun v => some (.ret v, m))) fuel v11_5 v13_6 (.int .i64 0) m))) (fun v m => some (.pan v, m)))))))) (fun v m => some (.pan v, m)))
def keep26 : Keep := { region := fun i => ([[0], [0, 6], [2], [3], [3, 13, 14], [3, 13, 14, 15], [3, 4, 13, 14], [3, 13, 14], [3, 13, 14], [2]] : List (List Nat))[i]?, exit := fun i => ([[3], [3, 13, 14]] : List (List Nat))[i]?, ret := some [2] }
noncomputable def r26_L0_R (call : CallF) (fuel base n : Nat) (vs : List Value) (m : M) (K : KT) : Res2 := match vs with
  | [x3, x13, x14] => r26_L0 call fuel base (fun v m => K (.pan v) { n := 29, l := [] } m) (fun y3 m => K (.exit 0) { n := 29, l := [(3, y3)] } m) n x3 x13 x14 m
  | _ => none
noncomputable def lp26 (call : CallF) (fuel base : Nat) : Lp := lpsel [(0, fun T m K => kslots 29 [3, 13, 14] T fun vs => r26_L0_R call fuel base fuel vs m K)]
noncomputable def c26 : Code := Try.f26.body.getD .skip
theorem r26_L0_lk (call : CallF) (fuel base : Nat) : LoopsOk E call (lp26 call fuel base) fuel base 0 (loopB (blockB (seqR (seqL (seqR (seqR (seqR c26))))))) = (And True (And (And True True) (And (And True True) True))) := by kernel_rfl
theorem r26_L0_ok (call : CallF) (fuel base : Nat) : LpOk E call (lp26 call fuel base) fuel base 0 (loopB (blockB (seqR (seqL (seqR (seqR (seqR c26))))))) := by
  refine loop_ok (kp := keep26) (hb := Eq.mpr (r26_L0_lk call fuel base) (And.intro trivial (And.intro (And.intro trivial trivial) (And.intro (And.intro trivial trivial) trivial)))) 29 [3, 13, 14] (fun n vs m K => r26_L0_R call fuel base n vs m K) ?_ ?_ (fun _ _ _ => rfl)
  · intro vs m K
    unfold r26_L0_R
    split <;> rfl
  · intro n vs m K hl
    match vs, hl with
    | [x3, x13, x14], _ => show _ = _; kernel_rfl
theorem r26_eq (call : CallF) (fuel base : Nat) (x0 : Value) (m : M) : kbody E call keep26 (lp26 call fuel base) base Try.f26 [x0] m = r26 call fuel base x0 m := by
  kernel_rfl
noncomputable def rf26 : RF := fun call fuel base args m => match args with
  | [x0] => r26 call fuel base x0 m
  | _ => none
theorem r26_lk (call : CallF) (fuel base : Nat) : LoopsOk E call (lp26 call fuel base) fuel base 0 c26 = (And True (And (And True (And (And True True) True)) (And True (And (And True (LpOk E call (lp26 call fuel base) fuel base 0 (loopB (blockB (seqR (seqL (seqR (seqR (seqR c26))))))))) (And True True))))) := by kernel_rfl
theorem r26_fn : E.P.funcs[26]? = some Try.f26 := by kernel_rfl
theorem r26_body : Try.f26.body = some c26 := by kernel_rfl
theorem rf26_ok : RFok E 26 rf26 := by
  show RFok' E 26 rf26
  refine ⟨Try.f26, r26_fn, fun call fuel base args m r _ h => ?_⟩
  unfold rf26 at h
  split at h
  · rw [← r26_eq] at h
    exact kbody_sound (c := c26) r26_body (Eq.mpr (r26_lk call fuel base) (And.intro trivial (And.intro (And.intro trivial (And.intro (And.intro trivial trivial) trivial)) (And.intro trivial (And.intro (And.intro trivial (r26_L0_ok call fuel base)) (And.intro trivial trivial)))))) h
  · simp at h
end Go.AM
namespace Go.AM
open Go Go.Proofs
noncomputable def r27 (call : CallF) (fuel base : Nat) (x0 : Value) (x1 : Value) (m : M) : Res2 :=
  (kc (call base 68 [x0] m) (fun v7_1 m => (kb v7_1 (some (.ret (.tuple #[(.int .i64 0), (.int .i64 1)]), m)) (kc (call base 69 [x0, x1] m) (fun v10_2 m => (k1 (mun .not v10_2) fun v11_3 => (kb v11_3 (some (.ret (.tuple #[(.int .i64 0), (.int .i64 2)]), m)) (k1 (mnil x0) fun v13_4 => (k1 (mfieldAddr E.P 57 v13_4 3) fun v14_5 => (k1 (xload E.P m 55 v14_5) fun v15_6 => (k2 (vcall E.P base m .len [55] [v15_6]) fun v16_7 m => (k1 (mbin E .geq 3 v16_7 (.int .i64 8)) fun v17_8 => (kb v17_8 (some (.ret (.tuple #[(.int .i64 0), (.int .i64 8)]), m)) (k1 (mnil x0) fun v20_9 => (k1 (mfieldAddr E.P 57 v20_9 3) fun v21_10 => (k1 (xload E.P m 55 v21_10) fun v22_11 => (k1 (mnil x0) fun v24_12 => (k1 (mfieldAddr E.P 57 v24_12 0) fun v25_13 => (k1 (xload E.P m 53 v25_13) fun v26_14 => (k2 (vcall E.P base m .len [53] [v26_14]) fun v27_15 m => (k2 (xmakeSlice E.P m 125 v27_15 v27_15) fun v28_16 m => (k2 (xbuildSlice E.P m 55 1 [(0, v28_16)]) fun v29_17 m => (k2 (vcall E.P base m .append [55, 55] [v22_11, v29_17]) fun v30_18 m => (k1 (mnil x0) fun v31_19 => (k1 (mfieldAddr E.P 57 v31_19 3) fun v32_20 => (ks (xstore E.P base m 55 v32_20 v30_18) fun m => (k1 (mnil x0) fun v35_21 => (k1 (mfieldAddr E.P 57 v35_21 3) fun v36_22 => (k1 (xload E.P m 55 v36_22) fun v37_23 => (k2 (vcall E.P base m .len [55] [v37_23]) fun v38_24 m => (kc (call base 75 [x0, v38_24, x1] m) (fun v40_25 m => (k1 (mnil x0) fun v42_26 => (k1 (mfieldAddr E.P 57 v42_26 3) fun v43_27 => (k1 (xload E.P m 55 v43_27) fun v44_28 => (k2 (vcall E.P base m .len [55] [v44_28]) fun v45_29 m => (some (.ret (.tuple #[v45_29, (.int .i64 0)]), m))))))) (fun v m => some (.pan v, m))))))))))))))))))))))))))))) (fun v m => some (.pan v, m))))) (fun v m => some (.pan v, m)))
def keep27 : Keep := { region := fun i => ([[0, 1], [0, 1, 7], [4, 5], [0, 1, 11], [4, 5], [0, 1, 17], [4, 5], [0, 1], [0], [4, 5]] : List (List Nat))[i]?, exit := fun i => ([] : List (List Nat))[i]?, ret := some [4, 5] }
noncomputable def lp27 (call : CallF) (fuel base : Nat) : Lp := lpsel []
noncomputable def c27 : Code := Try.f27.body.getD .skip
theorem r27_eq (call : CallF) (fuel base : Nat) (x0 : Value) (x1 : Value) (m : M) : kbody E call keep27 (lp27 call fuel base) base Try.f27 [x0, x1] m = r27 call fuel base x0 x1 m := by
  kernel_rfl
noncomputable def rf27 : RF := fun call fuel base args m => match args with
  | [x0, x1] => r27 call fuel base x0 x1 m
  | _ => none
theorem r27_lk (call : CallF) (fuel base : Nat) : LoopsOk E call (lp27 call fuel base) fuel base 0 c27 = (And True (And (And True (And (And True True) True)) (And (And True (And (And True True) True)) (And (And True (And (And True True) True)) (And True (And True (And True True))))))) := by kernel_rfl
theorem r27_fn : E.P.funcs[27]? = some Try.f27 := by kernel_rfl
theorem r27_body : Try.f27.body = some c27 := by kernel_rfl
theorem rf27_ok : RFok E 27 rf27 := by
  show RFok' E 27 rf27
  refine ⟨Try.f27, r27_fn, fun call fuel base args m r _ h => ?_⟩
  unfold rf27 at h
  split at h
  · rw [← r27_eq] at h
    exact kbody_sound (c := c27) r27_body (Eq.mpr (r27_lk call fuel base) (And.intro trivial (And.intro (And.intro trivial (And.intro (And.intro trivial trivial) trivial)) (And.intro (And.intro trivial (And.intro (And.intro trivial trivial) trivial)) (And.intro (And.intro trivial (And.intro (And.intro trivial trivial) trivial)) (And.intro trivial (And.intro trivial (And.intro trivial trivial)))))))) h
  · simp at h
end Go.AM
namespace Go.AM
open Go Go.Proofs
noncomputable def r28 (call : CallF) (fuel base : Nat) (x0 : Value) (m : M) : Res2 :=
  (kc (call base 68 [x0] m) (fun v4_1 m => (kb v4_1 (fVal (.int .i64 0) fun v => some (.ret v, m)) (kc (call base 76 [x0] m) (fun v6_2 m => (fVal v6_2 fun v => some (.ret v, m))) (fun v m => some (.pan v, m))))) (fun v m => some (.pan v, m)))
def keep28 : Keep := { region := fun i => ([[0], [0, 4], [2], [2]] : List (List Nat))[i]?, exit := fun i => ([] : List (List Nat))[i]?, ret := some [2] }
noncomputable def lp28 (call : CallF) (fuel base : Nat) : Lp := lpsel []
noncomputable def c28 : Code := Try.f28.body.getD .skip
theorem r28_eq (call : CallF) (fuel base : Nat) (x0 : Value) (m : M) : kbody E call keep28 (lp28 call fuel base) base Try.f28 [x0] m = r28 call fuel base x0 m := by
  kernel_rfl
noncomputable def rf28 : RF := fun call fuel base args m => match args with
  | [x0] => r28 call fuel base x0 m
  | _ => none
theorem r28_lk (call : CallF) (fuel base : Nat) : LoopsOk E call (lp28 call fuel base) fuel base 0 c28 = (And True (And (And True (And (And True True) True)) (And True True))) := by kernel_rfl
theorem r28_fn : E.P.funcs[28]? = some Try.f28 := by kernel_rfl
theorem r28_body : Try.f28.body = some c28 := by kernel_rfl
theorem rf28_ok : RFok E 28 rf28 := by
  show RFok' E 28 rf28
  refine ⟨Try.f28, r28_fn, fun call fuel base args m r _ h => ?_⟩
  unfold rf28 at h
  split at h
  · rw [← r28_eq] at h
    exact kbody_sound (c := c28) r28_body (Eq.mpr (r28_lk call fuel base) (And.intro trivial (And.intro (And.intro trivial (And.intro (And.intro trivial trivial) trivial)) (And.intro trivial trivial)))) h
  · simp at h
end Go.AM
namespace Go.AM
open Go Go.Proofs
noncomputable def r31 (call : CallF) (fuel base : Nat) (x0 : Value) (x1 : Value) (m : M) : Res2 :=
  (k2 (xalloc E.P m 62) fun v4_1 m => (kc (call base 80 [x0, x1] m) (fun v11_2 m => (k1 (mextract 0 v11_2) fun v12_3 => (k1 (mextract 1 v11_2) fun v13_4 => (k1 (mbin E .neq 26 v13_4 (.int .i64 0)) fun v15_5 => (kb v15_5 (k1 (mbuild E.P 62 []) fun v16_6 => (ks (xstore E.P base m 62 v4_1 v16_6) fun m => (k0 (mload E.P m 62 v4_1) fun r_7 => (some (.ret (.tuple #[r_7, v13_4]), m))))) (kc (call base 81 [v12_3] m) (fun v19_8 m => (ks (xstore E.P base m 62 v4_1 v19_8) fun m => (k0 (mload E.P m 62 v4_1) fun r_9 => (some (.ret (.tuple #[r_9, (.int .i64 0)]), m))))) (fun v m => some (.pan v, m)))))))) (fun v m => some (.pan v, m))))
def keep31 : Keep := { region := fun i => ([[0, 1, 4], [4, 6, 7], [4, 6, 7, 15], [4, 5], [4, 5]] : List (List Nat))[i]?, exit := fun i => ([] : List (List Nat))[i]?, ret := some [4, 5] }
noncomputable def lp31 (call : CallF) (fuel base : Nat) : Lp := lpsel []
noncomputable def c31 : Code := Try.f31.body.getD .skip
theorem r31_eq (call : CallF) (fuel base : Nat) (x0 : Value) (x1 : Value) (m : M) : kbody E call keep31 (lp31 call fuel base) base Try.f31 [x0, x1] m = r31 call fuel base x0 x1 m := by
  kernel_rfl
noncomputable def rf31 : RF := fun call fuel base args m => match args with
  | [x0, x1] => r31 call fuel base x0 x1 m
  | _ => none
theorem r31_lk (call : CallF) (fuel base : Nat) : LoopsOk E call (lp31 call fuel base) fuel base 0 c31 = (And True (And True (And (And True (And (And True True) True)) (And True True)))) := by kernel_rfl
theorem r31_fn : E.P.funcs[31]? = some Try.f31 := by kernel_rfl
theorem r31_body : Try.f31.body = some c31 := by kernel_rfl
theorem rf31_ok : RFok E 31 rf31 := by
  show RFok' E 31 rf31
  refine ⟨Try.f31, r31_fn, fun call fuel base args m r _ h => ?_⟩
  unfold rf31 at h
  split at h
  · rw [← r31_eq] at h
    exact kbody_sound (c := c31) r31_body (Eq.mpr (r31_lk call fuel base) (And.intro trivial (And.intro trivial (And.intro (And.intro trivial (And.intro (And.intro trivial trivial) trivial)) (And.intro trivial trivial))))) h
  · simp at h
end Go.AM
namespace Go.AM
open Go Go.Proofs
noncomputable def r49 (call : CallF) (fuel base : Nat) (x0 : Value) (m : M) : Res2 :=
  (k1 (mbin E .geq 3 x0 (.int .i64 2)) fun v4_1 => (kb v4_1 (k1 (mbin E .leq 3 x0 (.int .i64 5)) fun v7_2 => (fVal v7_2 fun v => some (.ret v, m))) (fVal (.bool false) fun v => some (.ret v, m))))
def keep49 : Keep := { region := fun i => ([[0], [2]] : List (List Nat))[i]?, exit := fun i => ([] : List (List Nat))[i]?, ret := some [2] }
noncomputable def lp49 (call : CallF) (fuel base : Nat) : Lp := lpsel []
noncomputable def c49 : Code := Try.f49.body.getD .skip
theorem r49_eq (call : CallF) (fuel base : Nat) (x0 : Value) (m : M) : kbody E call keep49 (lp49 call fuel base) base Try.f49 [x0] m = r49 call fuel base x0 m := by
  kernel_rfl
noncomputable def rf49 : RF := fun call fuel base args m => match args with
  | [x0] => r49 call fuel base x0 m
  | _ => none
theorem r49_lk (call : CallF) (fuel base : Nat) : LoopsOk E call (lp49 call fuel base) fuel base 0 c49 = (And True (And True True)) := by kernel_rfl
theorem r49_fn : E.P.funcs[49]? = some Try.f49 := by kernel_rfl
theorem r49_body : Try.f49.body = some c49 := by kernel_rfl
theorem rf49_ok : RFok E 49 rf49 := by
  show RFok' E 49 rf49
  refine ⟨Try.f49, r49_fn, fun call fuel base args m r _ h => ?_⟩
  unfold rf49 at h
  split at h
  · rw [← r49_eq] at h
    exact kbody_sound (c := c49) r49_body (Eq.mpr (r49_lk call fuel base) (And.intro trivial (And.intro trivial trivial))) h
  · simp at h
end Go.AM
namespace Go.AM
open Go Go.Proofs
noncomputable def r50 (call : CallF) (fuel base : Nat) (x0 : Value) (x1 : Value) (m : M) : Res2 :=
  (kc (call base 92 [x0, x1] m) (fun v7_1 m => (k1 (mbin E .geq 3 v7_1 (.int .i64 0)) fun v8_2 => (fVal v8_2 fun v => some (.ret v, m)))) (fun v m => some (.pan v, m)))
def keep50 : Keep := { region := fun i => ([[0, 1], [4]] : List (List Nat))[i]?, exit := fun i => ([] : List (List Nat))[i]?, ret := some [4] }
noncomputable def lp50 (call : CallF) (fuel base : Nat) : Lp := lpsel []
noncomputable def c50 : Code := Try.f50.body.getD .skip
theorem r50_eq (call : CallF) (fuel base : Nat) (x0 : Value) (x1 : Value) (m : M) : kbody E call keep50 (lp50 call fuel base) base Try.f50 [x0, x1] m = r50 call fuel base x0 x1 m := by
  kernel_rfl
noncomputable def rf50 : RF := fun call fuel base args m => match args with
  | [x0, x1] => r50 call fuel base x0 x1 m
  | _ => none
theorem r50_lk (call : CallF) (fuel base : Nat) : LoopsOk E call (lp50 call fuel base) fuel base 0 c50 = (And True (And True True)) := by kernel_rfl
theorem r50_fn : E.P.funcs[50]? = some Try.f50 := by kernel_rfl
theorem r50_body : Try.f50.body = some c50 := by kernel_rfl
theorem rf50_ok : RFok E 50 rf50 := by
  show RFok' E 50 rf50
  refine ⟨Try.f50, r50_fn, fun call fuel base args m r _ h => ?_⟩
  unfold rf50 at h
  split at h
  · rw [← r50_eq] at h
    exact kbody_sound (c := c50) r50_body (Eq.mpr (r50_lk call fuel base) (And.intro trivial (And.intro trivial trivial))) h
  · simp at h
end Go.AM
namespace Go.AM
open Go Go.Proofs
noncomputable def r51 (call : CallF) (fuel base : Nat) (x0 : Value) (m : M) : Res2 :=
  (k1 (mbin E .lss 3 x0 (.int .i64 0)) fun v4_1 => (kb v4_1 (fVal (.bool true) fun v => some (.ret v, m)) (k1 (mbin E .gtr 3 x0 (.int .i64 1000000)) fun v7_2 => (fVal v7_2 fun v => some (.ret v, m)))))
def keep51 : Keep := { region := fun i => ([[0], [2]] : List (List Nat))[i]?, exit := fun i => ([] : List (List Nat))[i]?, ret := some [2] }
noncomputable def lp51 (call : CallF) (fuel base : Nat) : Lp := lpsel []
noncomputable def c51 : Code := Try.f51.body.getD .skip
theorem r51_eq (call : CallF) (fuel base : Nat) (x0 : Value) (m : M) : kbody E call keep51 (lp51 call fuel base) base Try.f51 [x0] m = r51 call fuel base x0 m := by
  kernel_rfl
noncomputable def rf51 : RF := fun call fuel base args m => match args with
  | [x0] => r51 call fuel base x0 m
  | _ => none
theorem r51_lk (call : CallF) (fuel base : Nat) : LoopsOk E call (lp51 call fuel base) fuel base 0 c51 = (And True (And True True)) := by kernel_rfl
theorem r51_fn : E.P.funcs[51]? = some Try.f51 := by kernel_rfl
theorem r51_body : Try.f51.body = some c51 := by kernel_rfl
theorem rf51_ok : RFok E 51 rf51 := by
  show RFok' E 51 rf51
  refine ⟨Try.f51, r51_fn, fun call fuel base args m r _ h => ?_⟩
  unfold rf51 at h
  split at h
  · rw [← r51_eq] at h
    exact kbody_sound (c := c51) r51_body (Eq.mpr (r51_lk call fuel base) (And.intro trivial (And.intro trivial trivial))) h
  · simp at h
end Go.AM
namespace Go.AM
open Go Go.Proofs
noncomputable def r52_L0 (call : CallF) (fuel base : Nat) (kx0 : Value → M → Res2) (n : Nat) : Value → Value → Value → Value → Value → M → Res2 :=
  Nat.rec (motive := fun _ => Value → Value → Value → Value → Value → M → Res2) (fun _ _ _ _ _ _ => none)
    (fun _ ih x0 x3 x8 x9 x10 m =>
      (k1 (mbin E .lss 3 x10 x9) fun v11_4 => (kb v11_4 (k1 (mindexAddr E.P 22 x8 x10) fun v12_5 => (k1 (xload E.P m 3 v12_5) fun v13_6 => (k1 (mnil x3) fun v16_7 => (k1 (mfieldAddr E.P 57 v16_7 0) fun v17_8 => (k1 (xload E.P m 53 v17_8) fun v18_9 => (k1 (mbuild E.P 114 [(0, v13_6)]) fun v20_10 => (k2 (xbuildSlice E.P m 53 1 [(0, v20_10)]) fun v21_11 m => (k2 (vcall E.P base m .append [53, 53] [v18_9, v21_11]) fun v22_12 m => (k1 (mnil x3) fun v23_13 => (k1 (mfieldAddr E.P 57 v23_13 0) fun v24_14 => (ks (xstore E.P base m 53 v24_14 v22_12) fun m => (k1 (mnil x3) fun v27_15 => (k1 (mfieldAddr E.P 57 v27_15 1) fun v28_16 => (k1 (xload E.P m 54 v28_16) fun v29_17 => (k2 (vcall E.P base m .len [22] [x0]) fun v31_18 m => (k2 (xmakeSlice E.P m 104 v31_18 v31_18) fun v32_19 m => (k2 (xbuildSlice E.P m 54 1 [(0, v32_19)]) fun v33_20 m => (k2 (vcall E.P base m .append [54, 54] [v29_17, v33_20]) fun v34_21 m => (k1 (mnil x3) fun v35_22 => (k1 (mfieldAddr E.P 57 v35_22 1) fun v36_23 => (ks (xstore E.P base m 54 v36_23 v34_21) fun m => (k1 (mbin E .add 3 x10 (.int .i64 1)) fun v37_24 => (ih x0 x3 x8 x9 v37_24 m))))))))))))))))))))))) (kx0 x3 m)))) n
noncomputable def r52 (call : CallF) (fuel base : Nat) (x0 : Value) (m : M) : Res2 :=
  (k1 (mbuild E.P 57 []) fun v6_1 => (k2 (xbox m v6_1) fun v7_2 m => (k2 (vcall E.P base m .len [22] [x0]) fun v9_3 m => (r52_L0 call fuel base (fun y3_25 m => (fVal y3_25 fun v => some (.ret v, m))) fuel x0 v7_2 x0 v9_3 (.int .i64 0) m))))
def keep52 : Keep := { region := fun i => ([[0], [0, 3], [0, 3, 8, 9, 10], [0, 3, 8, 9, 10, 11], [0, 3, 5, 8, 9, 10], [0, 3, 8, 9, 10], [0, 3, 8, 9, 10], [0, 3, 8, 9, 10], [2]] : List (List Nat))[i]?, exit := fun i => ([[3], [0, 3, 8, 9, 10]] : List (List Nat))[i]?, ret := some [2] }
noncomputable def r52_L0_R (call : CallF) (fuel base n : Nat) (vs : List Value) (m : M) (K : KT) : Res2 := match vs with
  | [x0, x3, x8, x9, x10] => r52_L0 call fuel base (fun y3 m => K (.exit 0) { n := 39, l := [(3, y3)] } m) n x0 x3 x8 x9 x10 m
  | _ => none
noncomputable def lp52 (call : CallF) (fuel base : Nat) : Lp := lpsel [(0, fun T m K => kslots 39 [0, 3, 8, 9, 10] T fun vs => r52_L0_R call fuel base fuel vs m K)]
noncomputable def c52 : Code := Try.f52.body.getD .skip
theorem r52_L0_lk (call : CallF) (fuel base : Nat) : LoopsOk E call (lp52 call fuel base) fuel base 0 (loopB (blockB (seqR (seqL (seqR (seqR c52)))))) = (And True (And (And True True) (And (And True (And True True)) True))) := by kernel_rfl
theorem r52_L0_ok (call : CallF) (fuel base : Nat) : LpOk E call (lp52 call fuel base) fuel base 0 (loopB (blockB (seqR (seqL (seqR (seqR c52)))))) := by
  refine loop_ok (kp := keep52) (hb := Eq.mpr (r52_L0_lk call fuel base) (And.intro trivial (And.intro (And.intro trivial trivial) (And.intro (And.intro trivial (And.intro trivial trivial)) trivial)))) 39 [0, 3, 8, 9, 10] (fun n vs m K => r52_L0_R call fuel base n vs m K) ?_ ?_ (fun _ _ _ => rfl)
  · intro vs m K
    unfold r52_L0_R
    split <;> rfl
  · intro n vs m K hl
    match vs, hl with
    | [x0, x3, x8, x9, x10], _ => show _ = _; kernel_rfl
theorem r52_eq (call : CallF) (fuel base : Nat) (x0 : Value) (m : M) : kbody E call keep52 (lp52 call fuel base) base Try.f52 [x0] m = r52 call fuel base x0 m := by
  kernel_rfl
noncomputable def rf52 : RF := fun call fuel base args m => match args with
  | [x0] => r52 call fuel base x0 m
  | _ => none
theorem r52_lk (call : CallF) (fuel base : Nat) : LoopsOk E call (lp52 call fuel base) fuel base 0 c52 = (And True (And True (And (And True (LpOk E call (lp52 call fuel base) fuel base 0 (loopB (blockB (seqR (seqL (seqR (seqR c52)))))))) (And True True)))) := by kernel_rfl
theorem r52_fn : E.P.funcs[52]? = some Try.f52 := by kernel_rfl
theorem r52_body : Try.f52.body = some c52 := by kernel_rfl
theorem rf52_ok : RFok E 52 rf52 := by
  show RFok' E 52 rf52
  refine ⟨Try.f52, r52_fn, fun call fuel base args m r _ h => ?_⟩
  unfold rf52 at h
  split at h
  · rw [← r52_eq] at h
    exact kbody_sound (c := c52) r52_body (Eq.mpr (r52_lk call fuel base) (And.intro trivial (And.intro trivial (And.intro (And.intro trivial (r52_L0_ok call fuel base)) (And.intro trivial trivial))))) h
  · simp at h
end Go.AM
namespace Go.AM
open Go Go.Proofs
noncomputable def r59 (call : CallF) (fuel base : Nat) (x0 : Value) (x1 : Value) (x2 : Value) (m : M) : Res2 :=
  (kc (call base 68 [x0] m) (fun v8_1 m => (kb v8_1 (fVal (.int .i64 1) fun v => some (.ret v, m)) (kc (call base 69 [x0, x1] m) (fun v11_2 m => (k1 (mun .not v11_2) fun v12_3 => (kb v12_3 (fVal (.int .i64 2) fun v => some (.ret v, m)) (kc (call base 69 [x0, x2] m) (fun v16_4 m => (k1 (mun .not v16_4) fun v17_5 => (kb v17_5 (fVal (.int .i64 2) fun v => some (.ret v, m)) (k1 (mbin E .eql 3 x1 x2) fun v22_6 => (kb v22_6 (fVal (.int .i64 2) fun v => some (.ret v, m)) (fVal (.int .i64 0) fun v => some (.ret v, m))))))) (fun v m => some (.pan v, m)))))) (fun v m => some (.pan v, m))))) (fun v m => some (.pan v, m)))
def keep59 : Keep := { region := fun i => ([[0, 1, 2], [0, 1, 2, 8], [6], [23], [6], [6]] : List (List Nat))[i]?, exit := fun i => ([] : List (List Nat))[i]?, ret := some [6] }
noncomputable def lp59 (call : CallF) (fuel base : Nat) : Lp := lpsel []
noncomputable def c59 : Code := Try.f59.body.getD .skip
theorem r59_eq (call : CallF) (fuel base : Nat) (x0 : Value) (x1 : Value) (x2 : Value) (m : M) : kbody E call keep59 (lp59 call fuel base) base Try.f59 [x0, x1, x2] m = r59 call fuel base x0 x1 x2 m := by
  kernel_rfl
noncomputable def rf59 : RF := fun call fuel base args m => match args with
  | [x0, x1, x2] => r59 call fuel base x0 x1 x2 m
  | _ => none
theorem r59_lk (call : CallF) (fuel base : Nat) : LoopsOk E call (lp59 call fuel base) fuel base 0 c59 = (And True (And (And True (And (And True True) True)) (And (And True (And (And True True) True)) (And True True)))) := by kernel_rfl
theorem r59_fn : E.P.funcs[59]? = some Try.f59 := by kernel_rfl
theorem r59_body : Try.f59.body = some c59 := by kernel_rfl
theorem rf59_ok : RFok E 59 rf59 := by
  show RFok' E 59 rf59
  refine ⟨Try.f59, r59_fn, fun call fuel base args m r _ h => ?_⟩
  unfold rf59 at h
  split at h
  · rw [← r59_eq] at h
    exact kbody_sound (c := c59) r59_body (Eq.mpr (r59_lk call fuel base) (And.intro trivial (And.intro (And.intro trivial (And.intro (And.intro trivial trivial) trivial)) (And.intro (And.intro trivial (And.intro (And.intro trivial trivial) trivial)) (And.intro trivial trivial))))) h
  · simp at h
end Go.AM
namespace Go.AM
open Go Go.Proofs
noncomputable def r65 (call : CallF) (fuel base : Nat) (x0 : Value) (m : M) : Res2 :=
  (k1 (mbin E .geq 3 x0 (.int .i64 1)) fun v4_1 => (kb v4_1 (k1 (mbin E .leq 3 x0 (.int .i64 1000000)) fun v7_2 => (fVal v7_2 fun v => some (.ret v, m))) (fVal (.bool false) fun v => some (.ret v, m))))
def keep65 : Keep := { region := fun i => ([[0], [2]] : List (List Nat))[i]?, exit := fun i => ([] : List (List Nat))[i]?, ret := some [2] }
noncomputable def lp65 (call : CallF) (fuel base : Nat) : Lp := lpsel []
noncomputable def c65 : Code := Try.f65.body.getD .skip
theorem r65_eq (call : CallF) (fuel base : Nat) (x0 : Value) (m : M) : kbody E call keep65 (lp65 call fuel base) base Try.f65 [x0] m = r65 call fuel base x0 m := by
  kernel_rfl
noncomputable def rf65 : RF := fun call fuel base args m => match args with
  | [x0] => r65 call fuel base x0 m
  | _ => none
theorem r65_lk (call : CallF) (fuel base : Nat) : LoopsOk E call (lp65 call fuel base) fuel base 0 c65 = (And True (And True True)) := by kernel_rfl
theorem r65_fn : E.P.funcs[65]? = some Try.f65 := by kernel_rfl
theorem r65_body : Try.f65.body = some c65 := by kernel_rfl
theorem rf65_ok : RFok E 65 rf65 := by
  show RFok' E 65 rf65
  refine ⟨Try.f65, r65_fn, fun call fuel base args m r _ h => ?_⟩
  unfold rf65 at h
  split at h
  · rw [← r65_eq] at h
    exact kbody_sound (c := c65) r65_body (Eq.mpr (r65_lk call fuel base) (And.intro trivial (And.intro trivial trivial))) h
  · simp at h
end Go.AM
namespace Go.AM
open Go Go.Proofs
noncomputable def r66 (call : CallF) (fuel base : Nat) (x0 : Value) (m : M) : Res2 :=
  (k1 (mnil x0) fun v4_1 => (k1 (mfieldAddr E.P 57 v4_1 2) fun v5_2 => (k1 (xload E.P m 45 v5_2) fun v6_3 => (k2 (vcall E.P base m .len [45] [v6_3]) fun v7_4 m => (k1 (mbin E .geq 3 v7_4 (.int .i64 400)) fun v8_5 => (fVal v8_5 fun v => some (.ret v, m)))))))
def keep66 : Keep := { region := fun i => ([[0], [2]] : List (List Nat))[i]?, exit := fun i => ([] : List (List Nat))[i]?, ret := some [2] }
noncomputable def lp66 (call : CallF) (fuel base : Nat) : Lp := lpsel []
noncomputable def c66 : Code := Try.f66.body.getD .skip
theorem r66_eq (call : CallF) (fuel base : Nat) (x0 : Value) (m : M) : kbody E call keep66 (lp66 call fuel base) base Try.f66 [x0] m = r66 call fuel base x0 m := by
  kernel_rfl
noncomputable def rf66 : RF := fun call fuel base args m => match args with
  | [x0] => r66 call fuel base x0 m
  | _ => none
theorem r66_lk (call : CallF) (fuel base : Nat) : LoopsOk E call (lp66 call fuel base) fuel base 0 c66 = (And True (And True True)) := by kernel_rfl
theorem r66_fn : E.P.funcs[66]? = some Try.f66 := by kernel_rfl
theorem r66_body : Try.f66.body = some c66 := by kernel_rfl
theorem rf66_ok : RFok E 66 rf66 := by
  show RFok' E 66 rf66
  refine ⟨Try.f66, r66_fn, fun call fuel base args m r _ h => ?_⟩
  unfold rf66 at h
  split at h
  · rw [← r66_eq] at h
    exact kbody_sound (c := c66) r66_body (Eq.mpr (r66_lk call fuel base) (And.intro trivial (And.intro trivial trivial))) h
  · simp at h
end Go.AM
namespace Go.AM
open Go Go.Proofs
noncomputable def r67 (call : CallF) (fuel base : Nat) (x0 : Value) (x1 : Value) (x2 : Value) (x3 : Value) (m : M) : Res2 :=
  (k1 (mnil x0) fun v9_1 => (k1 (mfieldAddr E.P 57 v9_1 0) fun v10_2 => (k1 (xload E.P m 53 v10_2) fun v11_3 => (k1 (mindexAddr E.P 53 v11_3 x1) fun v13_4 => (k1 (mfieldAddr E.P 114 v13_4 0) fun v14_5 => (k1 (xload E.P m 3 v14_5) fun v15_6 => (k1 (mbin E .sub 3 v15_6 x3) fun v17_7 => (k1 (mindexAddr E.P 53 v11_3 x1) fun v18_8 => (k1 (mfieldAddr E.P 114 v18_8 0) fun v19_9 => (ks (xstore E.P base m 3 v19_9 v17_7) fun m => (k1 (mbuild E.P 72 [(0, x1), (1, (.int .i64 2)), (2, x2), (3, x3)]) fun v24_10 => (kc (call base 100 [x0, v24_10] m) (fun v25_11 m => (k1 (mnil x0) fun v31_12 => (k1 (mfieldAddr E.P 57 v31_12 0) fun v32_13 => (k1 (xload E.P m 53 v32_13) fun v33_14 => (k1 (mindexAddr E.P 53 v33_14 x1) fun v35_15 => (k1 (mfieldAddr E.P 114 v35_15 1) fun v36_16 => (k1 (xload E.P m 112 v36_16) fun v37_17 => (k1 (mbuild E.P 117 [(0, x3), (1, v37_17)]) fun v38_18 => (k1 (miface E.P 117 v38_18) fun v39_19 => (kc (call base 101 [x0, x1, x2, v39_19] m) (fun v40_20 m => (some (.ret (.tuple #[]), m))) (fun v m => some (.pan v, m)))))))))))) (fun v m => some (.pan v, m))))))))))))))
def keep67 : Keep := { region := fun i => ([[0, 1, 2, 3], [0, 1, 2, 3], []] : List (List Nat))[i]?, exit := fun i => ([] : List (List Nat))[i]?, ret := some [] }
noncomputable def lp67 (call : CallF) (fuel base : Nat) : Lp := lpsel []
noncomputable def c67 : Code := Try.f67.body.getD .skip
theorem r67_eq (call : CallF) (fuel base : Nat) (x0 : Value) (x1 : Value) (x2 : Value) (x3 : Value) (m : M) : kbody E call keep67 (lp67 call fuel base) base Try.f67 [x0, x1, x2, x3] m = r67 call fuel base x0 x1 x2 x3 m := by
  kernel_rfl
noncomputable def rf67 : RF := fun call fuel base args m => match args with
  | [x0, x1, x2, x3] => r67 call fuel base x0 x1 x2 x3 m
  | _ => none
theorem r67_lk (call : CallF) (fuel base : Nat) : LoopsOk E call (lp67 call fuel base) fuel base 0 c67 = (And True (And True True)) := by kernel_rfl
theorem r67_fn : E.P.funcs[67]? = some Try.f67 := by kernel_rfl
theorem r67_body : Try.f67.body = some c67 := by kernel_rfl
theorem rf67_ok : RFok E 67 rf67 := by
  show RFok' E 67 rf67
  refine ⟨Try.f67, r67_fn, fun call fuel base args m r _ h => ?_⟩
  unfold rf67 at h
  split at h
  · rw [← r67_eq] at h
    exact kbody_sound (c := c67) r67_body (Eq.mpr (r67_lk call fuel base) (And.intro trivial (And.intro trivial trivial))) h
  · simp at h
end Go.AM
namespace Go.AM
open Go Go.Proofs
noncomputable def r68 (call : CallF) (fuel base : Nat) (x0 : Value) (m : M) : Res2 :=
  (k1 (mbin E .eql 25 x0 (.pointer none)) fun v4_1 => (kb v4_1 (fVal (.bool true) fun v => some (.ret v, m)) (k1 (mnil x0) fun v7_2 => (k1 (mfieldAddr E.P 57 v7_2 0) fun v8_3 => (k1 (xload E.P m 53 v8_3) fun v9_4 => (k2 (vcall E.P base m .len [53] [v9_4]) fun v10_5 m => (k1 (mbin E .eql 3 v10_5 (.int .i64 0)) fun v11_6 => (fVal v11_6 fun v => some (.ret v, m)))))))))
def keep68 : Keep := { region := fun i => ([[0], [2]] : List (List Nat))[i]?, exit := fun i => ([] : List (List Nat))[i]?, ret := some [2] }
noncomputable def lp68 (call : CallF) (fuel base : Nat) : Lp := lpsel []
noncomputable def c68 : Code := Try.f68.body.getD .skip
theorem r68_eq (call : CallF) (fuel base : Nat) (x0 : Value) (m : M) : kbody E call keep68 (lp68 call fuel base) base Try.f68 [x0] m = r68 call fuel base x0 m := by
  kernel_rfl
noncomputable def rf68 : RF := fun call fuel base args m => match args with
  | [x0] => r68 call fuel base x0 m
  | _ => none
theorem r68_lk (call : CallF) (fuel base : Nat) : LoopsOk E call (lp68 call fuel base) fuel base 0 c68 = (And True (And True True)) := by kernel_rfl
theorem r68_fn : E.P.funcs[68]? = some Try.f68 := by kernel_rfl
theorem r68_body : Try.f68.body = some c68 := by kernel_rfl
theorem rf68_ok : RFok E 68 rf68 := by
  show RFok' E 68 rf68
  refine ⟨Try.f68, r68_fn, fun call fuel base args m r _ h => ?_⟩
  unfold rf68 at h
  split at h
  · rw [← r68_eq] at h
    exact kbody_sound (c := c68) r68_body (Eq.mpr (r68_lk call fuel base) (And.intro trivial (And.intro trivial trivial))) h
  · simp at h
end Go.AM
namespace Go.AM
open Go Go.Proofs
noncomputable def r69 (call : CallF) (fuel base : Nat) (x0 : Value) (x1 : Value) (m : M) : Res2 :=
  (k1 (mbin E .geq 3 x1 (.int .i64 0)) fun v6_1 => (kb v6_1 (k1 (mnil x0) fun v10_2 => (k1 (mfieldAddr E.P 57 v10_2 0) fun v11_3 => (k1 (xload E.P m 53 v11_3) fun v12_4 => (k2 (vcall E.P base m .len [53] [v12_4]) fun v13_5 m => (k1 (mbin E .lss 3 x1 v13_5) fun v14_6 => (fVal v14_6 fun v => some (.ret v, m))))))) (fVal (.bool false) fun v => some (.ret v, m))))
def keep69 : Keep := { region := fun i => ([[0, 1], [4]] : List (List Nat))[i]?, exit := fun i => ([] : List (List Nat))[i]?, ret := some [4] }
noncomputable def lp69 (call : CallF) (fuel base : Nat) : Lp := lpsel []
noncomputable def c69 : Code := Try.f69.body.getD .skip
theorem r69_eq (call : CallF) (fuel base : Nat) (x0 : Value) (x1 : Value) (m : M) : kbody E call keep69 (lp69 call fuel base) base Try.f69 [x0, x1] m = r69 call fuel base x0 x1 m := by
  kernel_rfl
noncomputable def rf69 : RF := fun call fuel base args m => match args with
  | [x0, x1] => r69 call fuel base x0 x1 m
  | _ => none
theorem r69_lk (call : CallF) (fuel base : Nat) : LoopsOk E call (lp69 call fuel base) fuel base 0 c69 = (And True (And True True)) := by kernel_rfl
theorem r69_fn : E.P.funcs[69]? = some Try.f69 := by kernel_rfl
theorem r69_body : Try.f69.body = some c69 := by kernel_rfl
theorem rf69_ok : RFok E 69 rf69 := by
  show RFok' E 69 rf69
  refine ⟨Try.f69, r69_fn, fun call fuel base args m r _ h => ?_⟩
  unfold rf69 at h
  split at h
  · rw [← r69_eq] at h
    exact kbody_sound (c := c69) r69_body (Eq.mpr (r69_lk call fuel base) (And.intro trivial (And.intro trivial trivial))) h
  · simp at h
end Go.AM
namespace Go.AM
open Go Go.Proofs
noncomputable def r70 (call : CallF) (fuel base : Nat) (x0 : Value) (x1 : Value) (x2 : Value) (m : M) : Res2 :=
  (k1 (mnil x0) fun v7_1 => (k1 (mfieldAddr E.P 57 v7_1 0) fun v8_2 => (k1 (xload E.P m 53 v8_2) fun v9_3 => (k1 (mindexAddr E.P 53 v9_3 x1) fun v11_4 => (k1 (mfieldAddr E.P 114 v11_4 0) fun v12_5 => (k1 (xload E.P m 3 v12_5) fun v13_6 => (k1 (mbin E .add 3 v13_6 x2) fun v15_7 => (k1 (mindexAddr E.P 53 v9_3 x1) fun v16_8 => (k1 (mfieldAddr E.P 114 v16_8 0) fun v17_9 => (ks (xstore E.P base m 3 v17_9 v15_7) fun m => (k1 (mbuild E.P 72 [(0, x1), (1, (.int .i64 1)), (2, x1), (3, x2)]) fun v22_10 => (kc (call base 100 [x0, v22_10] m) (fun v23_11 m => (some (.ret (.tuple #[]), m))) (fun v m => some (.pan v, m))))))))))))))
def keep70 : Keep := { region := fun i => ([[0, 1, 2], []] : List (List Nat))[i]?, exit := fun i => ([] : List (List Nat))[i]?, ret := some [] }
noncomputable def lp70 (call : CallF) (fuel base : Nat) : Lp := lpsel []
noncomputable def c70 : Code := Try.f70.body.getD .skip
theorem r70_eq (call : CallF) (fuel base : Nat) (x0 : Value) (x1 : Value) (x2 : Value) (m : M) : kbody E call keep70 (lp70 call fuel base) base Try.f70 [x0, x1, x2] m = r70 call fuel base x0 x1 x2 m := by
  kernel_rfl
noncomputable def rf70 : RF := fun call fuel base args m => match args with
  | [x0, x1, x2] => r70 call fuel base x0 x1 x2 m
  | _ => none
theorem r70_lk (call : CallF) (fuel base : Nat) : LoopsOk E call (lp70 call fuel base) fuel base 0 c70 = (And True True) := by kernel_rfl
theorem r70_fn : E.P.funcs[70]? = some Try.f70 := by kernel_rfl
theorem r70_body : Try.f70.body = some c70 := by kernel_rfl
theorem rf70_ok : RFok E 70 rf70 := by
  show RFok' E 70 rf70
  refine ⟨Try.f70, r70_fn, fun call fuel base args m r _ h => ?_⟩
  unfold rf70 at h
  split at h
  · rw [← r70_eq] at h
    exact kbody_sound (c := c70) r70_body (Eq.mpr (r70_lk call fuel base) (And.intro trivial trivial)) h
  · simp at h
end Go.AM
namespace Go.AM
open Go Go.Proofs
noncomputable def r71_L0 (call : CallF) (fuel base : Nat) (kx0 : Value → Value → Value → Value → M → Res2) (n : Nat) : Value → Value → Value → Value → Value → Value → Value → M → Res2 :=
  Nat.rec (motive := fun _ => Value → Value → Value → Value → Value → Value → Value → M → Res2) (fun _ _ _ _ _ _ _ _ => none)
    (fun _ ih x0 x1 x2 x7 x14 x15 x16 m =>
      (k1 (mbin E .lss 3 x16 x15) fun v17_6 => (kb v17_6 (k1 (mindexAddr E.P 55 x14 x16) fun v18_7 => (k1 (xload E.P m 125 v18_7) fun v19_8 => (k1 (mindexAddr E.P 125 v19_8 x2) fun v22_9 => (k1 (mfieldAddr E.P 117 x7 0) fun v24_10 => (k1 (xload E.P m 3 v24_10) fun v25_11 => (kc (call base 102 [v22_9, x1, v25_11] m) (fun v26_12 m => (k1 (mbin E .add 3 x16 (.int .i64 1)) fun v27_13 => (ih x0 x1 x2 x7 x14 x15 v27_13 m))) (fun _ _ => none))))))) (kx0 x0 x1 x2 x7 m)))) n
noncomputable def r71 (call : CallF) (fuel base : Nat) (x0 : Value) (x1 : Value) (x2 : Value) (x3 : Value) (m : M) : Res2 :=
  (k2 (xbox m x3) fun v7_1 m => (k1 (mnil x0) fun v12_2 => (k1 (mfieldAddr E.P 57 v12_2 3) fun v13_3 => (k1 (xload E.P m 55 v13_3) fun v14_4 => (k2 (vcall E.P base m .len [55] [v14_4]) fun v15_5 m => (r71_L0 call fuel base (fun y0_14 y1_15 y2_16 y7_17 m => (k1 (mnil y0_14) fun v29_18 => (k1 (mfieldAddr E.P 57 v29_18 0) fun v30_19 => (k1 (xload E.P m 53 v30_19) fun v31_20 => (k1 (mindexAddr E.P 53 v31_20 y2_16) fun v33_21 => (k1 (mnil v33_21) fun v35_22 => (k1 (mfieldAddr E.P 114 v35_22 0) fun v36_23 => (k1 (xload E.P m 3 v36_23) fun v37_24 => (k1 (mfieldAddr E.P 117 y7_17 0) fun v38_25 => (k1 (xload E.P m 3 v38_25) fun v39_26 => (k1 (mbin E .add 3 v37_24 v39_26) fun v40_27 => (k1 (mnil v33_21) fun v41_28 => (k1 (mfieldAddr E.P 114 v41_28 0) fun v42_29 => (ks (xstore E.P base m 3 v42_29 v40_27) fun m => (k1 (mnil v33_21) fun v45_30 => (k1 (mfieldAddr E.P 114 v45_30 1) fun v46_31 => (k1 (xload E.P m 112 v46_31) fun v47_32 => (k1 (mfieldAddr E.P 117 y7_17 1) fun v48_33 => (k1 (xload E.P m 112 v48_33) fun v49_34 => (kc (kB m (call m.length 103 [v47_32, v49_34] m)) (fun v50_35 m => (k1 (mnil v33_21) fun v51_36 => (k1 (mfieldAddr E.P 114 v51_36 1) fun v52_37 => (ks (xstore E.P base m 112 v52_37 v50_35) fun m => (k1 (mfieldAddr E.P 117 y7_17 0) fun v56_38 => (k1 (xload E.P m 3 v56_38) fun v57_39 => (k1 (mbuild E.P 72 [(0, y2_16), (1, (.int .i64 3)), (2, y1_15), (3, v57_39)]) fun v58_40 => (kc (call base 100 [y0_14, v58_40] m) (fun v59_41 m => (some (.ret (.tuple #[]), m))) (fun v m => some (.pan v, m)))))))))) (fun _ _ => none))))))))))))))))))))) fuel x0 x1 x2 v7_1 v14_4 v15_5 (.int .i64 0) m))))))
def keep71 : Keep := { region := fun i => ([[0, 1, 2, 7], [0, 1, 2, 7, 14, 15, 16], [0, 1, 2, 7, 14, 15, 16, 17], [0, 1, 2, 7, 9, 14, 15, 16], [0, 1, 2, 7, 14, 15, 16], [0, 1, 2, 7, 14, 15, 16], [0, 1, 2, 7, 10], [0, 1, 2, 7, 10], [0, 1, 2, 7], []] : List (List Nat))[i]?, exit := fun i => ([[0, 1, 2, 7], [0, 1, 2, 7, 14, 15, 16]] : List (List Nat))[i]?, ret := some [] }
noncomputable def r71_L0_R (call : CallF) (fuel base n : Nat) (vs : List Value) (m : M) (K : KT) : Res2 := match vs with
  | [x0, x1, x2, x7, x14, x15, x16] => r71_L0 call fuel base (fun y0 y1 y2 y7 m => K (.exit 0) { n := 60, l := [(0, y0), (1, y1), (2, y2), (7, y7)] } m) n x0 x1 x2 x7 x14 x15 x16 m
  | _ => none
noncomputable def lp71 (call : CallF) (fuel base : Nat) : Lp := lpsel [(0, fun T m K => kslots 60 [0, 1, 2, 7, 14, 15, 16] T fun vs => r71_L0_R call fuel base fuel vs m K)]
noncomputable def c71 : Code := Try.f71.body.getD .skip
theorem r71_L0_lk (call : CallF) (fuel base : Nat) : LoopsOk E call (lp71 call fuel base) fuel base 0 (loopB (blockB (seqR (seqL (seqR c71))))) = (And True (And (And True True) (And (And True True) True))) := by kernel_rfl
theorem r71_L0_ok (call : CallF) (fuel base : Nat) : LpOk E call (lp71 call fuel base) fuel base 0 (loopB (blockB (seqR (seqL (seqR c71))))) := by
  refine loop_ok (kp := keep71) (hb := Eq.mpr (r71_L0_lk call fuel base) (And.intro trivial (And.intro (And.intro trivial trivial) (And.intro (And.intro trivial trivial) trivial)))) 60 [0, 1, 2, 7, 14, 15, 16] (fun n vs m K => r71_L0_R call fuel base n vs m K) ?_ ?_ (fun _ _ _ => rfl)
  · intro vs m K
    unfold r71_L0_R
    split <;> rfl
  · intro n vs m K hl
    match vs, hl with
    | [x0, x1, x2, x7, x14, x15, x16], _ => show _ = _; kernel_rfl
theorem r71_eq (call : CallF) (fuel base : Nat) (x0 : Value) (x1 : Value) (x2 : Value) (x3 : Value) (m : M) : kbody E call keep71 (lp71 call fuel base) base Try.f71 [x0, x1, x2, x3] m = r71 call fuel base x0 x1 x2 x3 m := by
  kernel_rfl
noncomputable def rf71 : RF := fun call fuel base args m => match args with
  | [x0, x1, x2, x3] => r71 call fuel base x0 x1 x2 x3 m
  | _ => none
theorem r71_lk (call : CallF) (fuel base : Nat) : LoopsOk E call (lp71 call fuel base) fuel base 0 c71 = (And True (And (And True (LpOk E call (lp71 call fuel base) fuel base 0 (loopB (blockB (seqR (seqL (seqR c71))))))) (And True (And True (And True True))))) := by kernel_rfl
theorem r71_fn : E.P.funcs[71]? = some Try.f71 := by kernel_rfl
theorem r71_body : Try.f71.body = some c71 := by kernel_rfl
theorem rf71_ok : RFok E 71 rf71 := by
  show RFok' E 71 rf71
  refine ⟨Try.f71, r71_fn, fun call fuel base args m r _ h => ?_⟩
  unfold rf71 at h
  split at h
  · rw [← r71_eq] at h
    exact kbody_sound (c := c71) r71_body (Eq.mpr (r71_lk call fuel base) (And.intro trivial (And.intro (And.intro trivial (r71_L0_ok call fuel base)) (And.intro trivial (And.intro trivial (And.intro trivial trivial)))))) h
  · simp at h
end Go.AM
namespace Go.AM
open Go Go.Proofs
noncomputable def r72 (call : CallF) (fuel base : Nat) (x0 : Value) (x1 : Value) (x2 : Value) (x3 : Value) (m : M) : Res2 :=
  (k2 (xbox m x3) fun v7_1 m => (k1 (mnil x0) fun v10_2 => (k1 (mfieldAddr E.P 57 v10_2 3) fun v11_3 => (k1 (xload E.P m 55 v11_3) fun v12_4 => (k1 (mfieldAddr E.P 120 v7_1 0) fun v13_5 => (k1 (xload E.P m 3 v13_5) fun v14_6 => (k1 (mbin E .sub 3 v14_6 (.int .i64 1)) fun v15_7 => (k1 (mindexAddr E.P 55 v12_4 v15_7) fun v16_8 => (k1 (xload E.P m 125 v16_8) fun v17_9 => (k1 (mindexAddr E.P 125 v17_9 x2) fun v19_10 => (k1 (mnil v19_10) fun v21_11 => (k1 (mfieldAddr E.P 147 v21_11 0) fun v22_12 => (k1 (xload E.P m 4 v22_12) fun v23_13 => (k1 (mun .not v23_13) fun v24_14 => (kb v24_14 (k1 (mfieldAddr E.P 120 v7_1 0) fun v26_15 => (k1 (xload E.P m 3 v26_15) fun v27_16 => (kc (call base 75 [x0, v27_16, x2] m) (fun v29_17 m => (k1 (mnil v19_10) fun v32_18 => (k1 (mfieldAddr E.P 147 v32_18 3) fun v33_19 => (k1 (mindexAddr E.P 144 v33_19 x1) fun v34_20 => (ks (xstore E.P base m 4 v34_20 (.bool false)) fun m => (some (.ret (.tuple #[]), m))))))) (fun v m => some (.pan v, m))))) (k1 (mnil v19_10) fun v32_21 => (k1 (mfieldAddr E.P 147 v32_21 3) fun v33_22 => (k1 (mindexAddr E.P 144 v33_22 x1) fun v34_23 => (ks (xstore E.P base m 4 v34_23 (.bool false)) fun m => (some (.ret (.tuple #[]), m)))))))))))))))))))))
def keep72 : Keep := { region := fun i => ([[0, 1, 2, 7], [0, 1, 2, 7, 8], [0, 1, 2, 7, 8, 24], [1, 8], []] : List (List Nat))[i]?, exit := fun i => ([] : List (List Nat))[i]?, ret := some [] }
noncomputable def lp72 (call : CallF) (fuel base : Nat) : Lp := lpsel []
noncomputable def c72 : Code := Try.f72.body.getD .skip
theorem r72_eq (call : CallF) (fuel base : Nat) (x0 : Value) (x1 : Value) (x2 : Value) (x3 : Value) (m : M) : kbody E call keep72 (lp72 call fuel base) base Try.f72 [x0, x1, x2, x3] m = r72 call fuel base x0 x1 x2 x3 m := by
  kernel_rfl
noncomputable def rf72 : RF := fun call fuel base args m => match args with
  | [x0, x1, x2, x3] => r72 call fuel base x0 x1 x2 x3 m
  | _ => none
theorem r72_lk (call : CallF) (fuel base : Nat) : LoopsOk E call (lp72 call fuel base) fuel base 0 c72 = (And True (And True (And (And True (And True True)) True))) := by kernel_rfl
theorem r72_fn : E.P.funcs[72]? = some Try.f72 := by kernel_rfl
theorem r72_body : Try.f72.body = some c72 := by kernel_rfl
theorem rf72_ok : RFok E 72 rf72 := by
  show RFok' E 72 rf72
  refine ⟨Try.f72, r72_fn, fun call fuel base args m r _ h => ?_⟩
  unfold rf72 at h
  split at h
  · rw [← r72_eq] at h
    exact kbody_sound (c := c72) r72_body (Eq.mpr (r72_lk call fuel base) (And.intro trivial (And.intro trivial (And.intro (And.intro trivial (And.intro trivial trivial)) trivial)))) h
  · simp at h
end Go.AM
namespace Go.AM
open Go Go.Proofs
noncomputable def r73 (call : CallF) (fuel base : Nat) (x0 : Value) (m : M) : Res2 :=
  (k1 (mbin E .eql 45 x0 (.slice none 0 0)) fun v4_1 => (kb v4_1 (fVal (.slice none 0 0) fun v => some (.ret v, m)) (k2 (xbuildSlice E.P m 45 0 []) fun v5_2 m => (k2 (vcall E.P base m .append [45, 45] [v5_2, x0]) fun v7_3 m => (fVal v7_3 fun v => some (.ret v, m))))))
def keep73 : Keep := { region := fun i => ([[0], [0, 4], [2], [2]] : List (List Nat))[i]?, exit := fun i => ([] : List (List Nat))[i]?, ret := some [2] }
noncomputable def lp73 (call : CallF) (fuel base : Nat) : Lp := lpsel []
noncomputable def c73 : Code := Try.f73.body.getD .skip
theorem r73_eq (call : CallF) (fuel base : Nat) (x0 : Value) (m : M) : kbody E call keep73 (lp73 call fuel base) base Try.f73 [x0] m = r73 call fuel base x0 m := by
  kernel_rfl
noncomputable def rf73 : RF := fun call fuel base args m => match args with
  | [x0] => r73 call fuel base x0 m
  | _ => none
theorem r73_lk (call : CallF) (fuel base : Nat) : LoopsOk E call (lp73 call fuel base) fuel base 0 c73 = (And True (And (And True (And (And True True) True)) (And True True))) := by kernel_rfl
theorem r73_fn : E.P.funcs[73]? = some Try.f73 := by kernel_rfl
theorem r73_body : Try.f73.body = some c73 := by kernel_rfl
theorem rf73_ok : RFok E 73 rf73 := by
  show RFok' E 73 rf73
  refine ⟨Try.f73, r73_fn, fun call fuel base args m r _ h => ?_⟩
  unfold rf73 at h
  split at h
  · rw [← r73_eq] at h
    exact kbody_sound (c := c73) r73_body (Eq.mpr (r73_lk call fuel base) (And.intro trivial (And.intro (And.intro trivial (And.intro (And.intro trivial trivial) trivial)) (And.intro trivial trivial)))) h
  · simp at h
end Go.AM
namespace Go.AM
open Go Go.Proofs
noncomputable def r74 (call : CallF) (fuel base : Nat) (x0 : Value) (m : M) : Res2 :=
  (k1 (mbin E .eql 22 x0 (.slice none 0 0)) fun v4_1 => (kb v4_1 (fVal (.slice none 0 0) fun v => some (.ret v, m)) (k2 (xbuildSlice E.P m 22 0 []) fun v5_2 m => (k2 (vcall E.P base m .append [22, 22] [v5_2, x0]) fun v7_3 m => (fVal v7_3 fun v => some (.ret v, m))))))
def keep74 : Keep := { region := fun i => ([[0], [0, 4], [2], [2]] : List (List Nat))[i]?, exit := fun i => ([] : List (List Nat))[i]?, ret := some [2] }
noncomputable def lp74 (call : CallF) (fuel base : Nat) : Lp := lpsel []
noncomputable def c74 : Code := Try.f74.body.getD .skip
theorem r74_eq (call : CallF) (fuel base : Nat) (x0 : Value) (m : M) : kbody E call keep74 (lp74 call fuel base) base Try.f74 [x0] m = r74 call fuel base x0 m := by
  kernel_rfl
noncomputable def rf74 : RF := fun call fuel base args m => match args with
  | [x0] => r74 call fuel base x0 m
  | _ => none
theorem r74_lk (call : CallF) (fuel base : Nat) : LoopsOk E call (lp74 call fuel base) fuel base 0 c74 = (And True (And (And True (And (And True True) True)) (And True True))) := by kernel_rfl
theorem r74_fn : E.P.funcs[74]? = some Try.f74 := by kernel_rfl
theorem r74_body : Try.f74.body = some c74 := by kernel_rfl
theorem rf74_ok : RFok E 74 rf74 := by
  show RFok' E 74 rf74
  refine ⟨Try.f74, r74_fn, fun call fuel base args m r _ h => ?_⟩
  unfold rf74 at h
  split at h
  · rw [← r74_eq] at h
    exact kbody_sound (c := c74) r74_body (Eq.mpr (r74_lk call fuel base) (And.intro trivial (And.intro (And.intro trivial (And.intro (And.intro trivial trivial) trivial)) (And.intro trivial trivial)))) h
  · simp at h
end Go.AM
namespace Go.AM
open Go Go.Proofs
noncomputable def r75_L0 (call : CallF) (fuel base : Nat) (kp : Value → M → Res2) (kx0 : M → Res2) (n : Nat) : Value → Value → Value → Value → Value → Value → M → Res2 :=
  Nat.rec (motive := fun _ => Value → Value → Value → Value → Value → Value → M → Res2) (fun _ _ _ _ _ _ _ => none)
    (fun _ ih x0 x1 x2 x7 x45 x46 m =>
      (k1 (mbin E .lss 3 x46 x45) fun v47_31 => (kb v47_31 (k1 (mbin E .neq 3 x46 x2) fun v51_32 => (kb v51_32 (k1 (mnil x7) fun v54_33 => (k1 (mfieldAddr E.P 147 v54_33 3) fun v55_34 => (k1 (mindexAddr E.P 144 v55_34 x46) fun v56_35 => (ks (xstore E.P base m 4 v56_35 (.bool true)) fun m => (k1 (mbuild E.P 120 [(0, x1)]) fun v61_36 => (k1 (miface E.P 120 v61_36) fun v62_37 => (kc (call base 101 [x0, x2, x46, v62_37] m) (fun v63_38 m => (k1 (mbin E .add 3 x46 (.int .i64 1)) fun v64_39 => (ih x0 x1 x2 x7 x45 v64_39 m))) (fun v m => kp v m)))))))) (k1 (mbin E .add 3 x46 (.int .i64 1)) fun v64_40 => (ih x0 x1 x2 x7 x45 v64_40 m)))) (kx0 m)))) n
noncomputable def r75 (call : CallF) (fuel base : Nat) (x0 : Value) (x1 : Value) (x2 : Value) (m : M) : Res2 :=
  (xlen m fun H_1 => (k1 (mnil x0) fun v10_2 => (k1 (mfieldAddr E.P 57 v10_2 0) fun v11_3 => (k1 (xload E.P m 53 v11_3) fun v12_4 => (k1 (mindexAddr E.P 53 v12_4 x2) fun v14_5 => (k1 (xload E.P m 114 v14_5) fun v15_6 => (k1 (mnil x0) fun v17_7 => (k1 (mfieldAddr E.P 57 v17_7 3) fun v18_8 => (kexv (mexact m v18_8) (k1 (xload E.P m 55 v18_8) fun v19_9 => (k1 (mbin E .sub 3 x1 (.int .i64 1)) fun v21_10 => (k1 (mindexAddr E.P 55 v19_9 v21_10) fun v22_11 => (kexv (mexact m v22_11) (k1 (xload E.P m 125 v22_11) fun v23_12 => (k1 (mindexAddr E.P 125 v23_12 x2) fun v25_13 => (k2 (xalloc E.P m 114) fun v6_14 m => (kexv (mdif v6_14 [v18_8, v22_11]) (ks (xstore E.P base m 114 v6_14 v15_6) fun m => (xlen m fun H_15 => (k1 (mfieldAddr E.P 114 v6_14 0) fun v29_16 => (kexv (mexact m v29_16) (k1 (xload E.P m 3 v29_16) fun v30_17 => (k1 (mfieldAddr E.P 114 v6_14 1) fun v32_18 => (k1 (mindexAddr E.P 112 v32_18 x2) fun v33_19 => (kexv (mexact m v33_19) (k1 (xload E.P m 3 v33_19) fun v34_20 => (k1 (mnil v25_13) fun v35_21 => (k1 (mfieldAddr E.P 147 v35_21 0) fun v36_22 => (kexv (mdif v36_22 [v29_16, v33_19]) (ks (xstore E.P base m 4 v36_22 (.bool true)) fun m => (k1 (mnil v25_13) fun v37_23 => (k1 (mfieldAddr E.P 147 v37_23 1) fun v38_24 => (kexv (mdif v38_24 [v33_19]) (ks (xstore E.P base m 3 v38_24 v30_17) fun m => (k1 (mnil v25_13) fun v39_25 => (k1 (mfieldAddr E.P 147 v39_25 2) fun v40_26 => (ks (xstore E.P base m 3 v40_26 v34_20) fun m => (k1 (mnil x0) fun v42_27 => (k1 (mfieldAddr E.P 57 v42_27 0) fun v43_28 => (k1 (xload E.P m 53 v43_28) fun v44_29 => (k2 (vcall E.P base m .len [53] [v44_29]) fun v45_30 m => (r75_L0 call fuel base (fun v m => some (.pan v, m)) (fun m => (some (.ret (.tuple #[]), m))) fuel x0 x1 x2 v25_13 v45_30 (.int .i64 0) m))))))))))))))))))))))))))))))))))))))))))
def keep75 : Keep := { region := fun i => ([[0, 1, 2, 6, 7], [0, 1, 2, 7], [0, 1, 2, 7, 45, 46], [0, 1, 2, 7, 45, 46, 47], [0, 1, 2, 7, 8, 45, 46], [0, 1, 2, 7, 8, 45, 46, 51], [0, 1, 2, 7, 8, 45, 46], [0, 1, 2, 7, 45, 46], [0, 1, 2, 7, 45, 46]] : List (List Nat))[i]?, exit := fun i => ([[], [0, 1, 2, 7, 45, 46]] : List (List Nat))[i]?, ret := some [] }
noncomputable def r75_L0_R (call : CallF) (fuel base n : Nat) (vs : List Value) (m : M) (K : KT) : Res2 := match vs with
  | [x0, x1, x2, x7, x45, x46] => r75_L0 call fuel base (fun v m => K (.pan v) { n := 65, l := [] } m) (fun m => K (.exit 0) { n := 65, l := [] } m) n x0 x1 x2 x7 x45 x46 m
  | _ => none
noncomputable def lp75 (call : CallF) (fuel base : Nat) : Lp := lpsel [(0, fun T m K => kslots 65 [0, 1, 2, 7, 45, 46] T fun vs => r75_L0_R call fuel base fuel vs m K)]
noncomputable def c75 : Code := Try.f75.body.getD .skip
theorem r75_L0_lk (call : CallF) (fuel base : Nat) : LoopsOk E call (lp75 call fuel base) fuel base 0 (loopB (blockB (seqR (seqR (seqR c75))))) = (And True (And (And True True) (And (And True (And True (And (And True True) True))) True))) := by kernel_rfl
theorem r75_L0_ok (call : CallF) (fuel base : Nat) : LpOk E call (lp75 call fuel base) fuel base 0 (loopB (blockB (seqR (seqR (seqR c75))))) := by
  refine loop_ok (kp := keep75) (hb := Eq.mpr (r75_L0_lk call fuel base) (And.intro trivial (And.intro (And.intro trivial trivial) (And.intro (And.intro trivial (And.intro trivial (And.intro (And.intro trivial trivial) trivial))) trivial)))) 65 [0, 1, 2, 7, 45, 46] (fun n vs m K => r75_L0_R call fuel base n vs m K) ?_ ?_ (fun _ _ _ => rfl)
  · intro vs m K
    unfold r75_L0_R
    split <;> rfl
  · intro n vs m K hl
    match vs, hl with
    | [x0, x1, x2, x7, x45, x46], _ => show _ = _; kernel_rfl
theorem r75_eq (call : CallF) (fuel base : Nat) (x0 : Value) (x1 : Value) (x2 : Value) (m : M) : kbody E call keep75 (lp75 call fuel base) base Try.f75 [x0, x1, x2] m = r75 call fuel base x0 x1 x2 m := by
  kernel_rfl
noncomputable def rf75 : RF := fun call fuel base args m => match args with
  | [x0, x1, x2] => r75 call fuel base x0 x1 x2 m
  | _ => none
theorem r75_lk (call : CallF) (fuel base : Nat) : LoopsOk E call (lp75 call fuel base) fuel base 0 c75 = (And True (And True (And True (LpOk E call (lp75 call fuel base) fuel base 0 (loopB (blockB (seqR (seqR (seqR c75))))))))) := by kernel_rfl
theorem r75_fn : E.P.funcs[75]? = some Try.f75 := by kernel_rfl
theorem r75_body : Try.f75.body = some c75 := by kernel_rfl
theorem rf75_ok : RFok E 75 rf75 := by
  show RFok' E 75 rf75
  refine ⟨Try.f75, r75_fn, fun call fuel base args m r _ h => ?_⟩
  unfold rf75 at h
  split at h
  · rw [← r75_eq] at h
    exact kbody_sound (c := c75) r75_body (Eq.mpr (r75_lk call fuel base) (And.intro trivial (And.intro trivial (And.intro trivial (r75_L0_ok call fuel base))))) h
  · simp at h
end Go.AM
namespace Go.AM
open Go Go.Proofs
noncomputable def r76_L2 (call : CallF) (fuel base : Nat) (kp : Value → M → Res2) (kx2 : Value → Value → Value → Value → Value → M → Res2) (n : Nat) : Value → Value → Value → Value → Value → Value → Value → Value → M → Res2 :=
  Nat.rec (motive := fun _ => Value → Value → Value → Value → Value → Value → Value → Value → M → Res2) (fun _ _ _ _ _ _ _ _ _ => none)
    (fun _ ih x0 x3 x11 x12 x13 x28 x29 x30 m =>
      (k1 (mbin E .lss 3 x30 x29) fun v31_18 => (kb v31_18 (k1 (mindexAddr E.P 104 x28 x30) fun v32_19 => (k1 (xload E.P m 103 v32_19) fun v33_20 => (kc (call base 104 [v33_20] m) (fun v36_21 m => (k1 (mbin E .add 3 x3 v36_21) fun v37_22 => (k1 (mbin E .add 3 x30 (.int .i64 1)) fun v38_23 => (ih x0 v37_22 x11 x12 x13 x28 x29 v38_23 m)))) (fun v m => kp v m)))) (kx2 x0 x3 x11 x12 x13 m)))) n
noncomputable def r76_L0 (call : CallF) (fuel base : Nat) (kp : Value → M → Res2) (kx0 : Value → M → Res2) (n : Nat) : Value → Value → Value → Value → Value → M → Res2 :=
  Nat.rec (motive := fun _ => Value → Value → Value → Value → Value → M → Res2) (fun _ _ _ _ _ _ => none)
    (fun _ ih x0 x3 x11 x12 x13 m =>
      (k1 (mbin E .lss 3 x13 x12) fun v14_5 => (kb v14_5 (k1 (mindexAddr E.P 53 x11 x13) fun v16_6 => (k1 (xload E.P m 114 v16_6) fun v17_7 => (k2 (xalloc E.P m 114) fun v5_8 m => (ks (xstore E.P base m 114 v5_8 v17_7) fun m => (k1 (mfieldAddr E.P 114 v5_8 0) fun v19_9 => (k1 (xload E.P m 3 v19_9) fun v20_10 => (k1 (mbin E .add 3 x3 v20_10) fun v21_11 => (k1 (mnil x0) fun v23_12 => (k1 (mfieldAddr E.P 57 v23_12 1) fun v24_13 => (k1 (xload E.P m 54 v24_13) fun v25_14 => (k1 (mindexAddr E.P 54 v25_14 x13) fun v27_15 => (k1 (xload E.P m 104 v27_15) fun v28_16 => (k2 (vcall E.P base m .len [104] [v28_16]) fun v29_17 m => (r76_L2 call fuel base (fun v m => kp v m) (fun y0_24 y3_25 y11_26 y12_27 y13_28 m => (k1 (mbin E .add 3 y13_28 (.int .i64 1)) fun v39_29 => (ih y0_24 y3_25 y11_26 y12_27 v39_29 m))) fuel x0 v21_11 x11 x12 x13 v28_16 v29_17 (.int .i64 0) m)))))))))))))) (kx0 x3 m)))) n
noncomputable def r76 (call : CallF) (fuel base : Nat) (x0 : Value) (m : M) : Res2 :=
  (k1 (mnil x0) fun v9_1 => (k1 (mfieldAddr E.P 57 v9_1 0) fun v10_2 => (k1 (xload E.P m 53 v10_2) fun v11_3 => (k2 (vcall E.P base m .len [53] [v11_3]) fun v12_4 m => (r76_L0 call fuel base (fun v m => some (.pan v, m)) (fun y3_30 m => (fVal y3_30 fun v => some (.ret v, m))) fuel x0 (.int .i64 0) v11_3 v12_4 (.int .i64 0) m)))))
def keep76 : Keep := { region := fun i => ([[0], [0, 3], [0, 3, 11, 12, 13], [0, 3, 11, 12, 13, 14], [0, 3, 4, 5, 11, 12, 13], [0, 3, 4, 11, 12, 13], [0, 3, 11, 12, 13, 28, 29, 30], [0, 3, 11, 12, 13, 28, 29, 30, 31], [0, 3, 7, 11, 12, 13, 28, 29, 30], [0, 3, 11, 12, 13, 28, 29, 30], [0, 3, 11, 12, 13, 28, 29, 30], [0, 3, 11, 12, 13], [2]] : List (List Nat))[i]?, exit := fun i => ([[3], [0, 3, 11, 12, 13], [0, 3, 11, 12, 13], [0, 3, 11, 12, 13, 28, 29, 30]] : List (List Nat))[i]?, ret := some [2] }
noncomputable def r76_L2_R (call : CallF) (fuel base n : Nat) (vs : List Value) (m : M) (K : KT) : Res2 := match vs with
  | [x0, x3, x11, x12, x13, x28, x29, x30] => r76_L2 call fuel base (fun v m => K (.pan v) { n := 41, l := [] } m) (fun y0 y3 y11 y12 y13 m => K (.exit 2) { n := 41, l := [(0, y0), (3, y3), (11, y11), (12, y12), (13, y13)] } m) n x0 x3 x11 x12 x13 x28 x29 x30 m
  | _ => none
noncomputable def r76_L0_R (call : CallF) (fuel base n : Nat) (vs : List Value) (m : M) (K : KT) : Res2 := match vs with
  | [x0, x3, x11, x12, x13] => r76_L0 call fuel base (fun v m => K (.pan v) { n := 41, l := [] } m) (fun y3 m => K (.exit 0) { n := 41, l := [(3, y3)] } m) n x0 x3 x11 x12 x13 m
  | _ => none
noncomputable def lp76 (call : CallF) (fuel base : Nat) : Lp := lpsel [(2, fun T m K => kslots 41 [0, 3, 11, 12, 13, 28, 29, 30] T fun vs => r76_L2_R call fuel base fuel vs m K), (0, fun T m K => kslots 41 [0, 3, 11, 12, 13] T fun vs => r76_L0_R call fuel base fuel vs m K)]
noncomputable def c76 : Code := Try.f76.body.getD .skip
theorem r76_L2_lk (call : CallF) (fuel base : Nat) : LoopsOk E call (lp76 call fuel base) fuel base 2 (loopB (blockB (seqR (seqR (seqR (blockB (seqL (seqR (seqR (loopB (blockB (seqR (seqL (seqR (seqR c76))))))))))))))) = (And True (And (And True True) (And (And True True) True))) := by kernel_rfl
theorem r76_L2_ok (call : CallF) (fuel base : Nat) : LpOk E call (lp76 call fuel base) fuel base 2 (loopB (blockB (seqR (seqR (seqR (blockB (seqL (seqR (seqR (loopB (blockB (seqR (seqL (seqR (seqR c76))))))))))))))) := by
  refine loop_ok (kp := keep76) (hb := Eq.mpr (r76_L2_lk call fuel base) (And.intro trivial (And.intro (And.intro trivial trivial) (And.intro (And.intro trivial trivial) trivial)))) 41 [0, 3, 11, 12, 13, 28, 29, 30] (fun n vs m K => r76_L2_R call fuel base n vs m K) ?_ ?_ (fun _ _ _ => rfl)
  · intro vs m K
    unfold r76_L2_R
    split <;> rfl
  · intro n vs m K hl
    match vs, hl with
    | [x0, x3, x11, x12, x13, x28, x29, x30], _ => show _ = _; kernel_rfl
theorem r76_L0_lk (call : CallF) (fuel base : Nat) : LoopsOk E call (lp76 call fuel base) fuel base 0 (loopB (blockB (seqR (seqL (seqR (seqR c76)))))) = (And True (And (And True True) (And (And True (And True (And True (LpOk E call (lp76 call fuel base) fuel base 2 (loopB (blockB (seqR (seqR (seqR (blockB (seqL (seqR (seqR (loopB (blockB (seqR (seqL (seqR (seqR c76))))))))))))))))))) True))) := by kernel_rfl
theorem r76_L0_ok (call : CallF) (fuel base : Nat) : LpOk E call (lp76 call fuel base) fuel base 0 (loopB (blockB (seqR (seqL (seqR (seqR c76)))))) := by
  refine loop_ok (kp := keep76) (hb := Eq.mpr (r76_L0_lk call fuel base) (And.intro trivial (And.intro (And.intro trivial trivial) (And.intro (And.intro trivial (And.intro trivial (And.intro trivial (r76_L2_ok call fuel base)))) trivial)))) 41 [0, 3, 11, 12, 13] (fun n vs m K => r76_L0_R call fuel base n vs m K) ?_ ?_ (fun _ _ _ => rfl)
  · intro vs m K
    unfold r76_L0_R
    split <;> rfl
  · intro n vs m K hl
    match vs, hl with
    | [x0, x3, x11, x12, x13], _ => show _ = _; kernel_rfl
theorem r76_eq (call : CallF) (fuel base : Nat) (x0 : Value) (m : M) : kbody E call keep76 (lp76 call fuel base) base Try.f76 [x0] m = r76 call fuel base x0 m := by
  kernel_rfl
noncomputable def rf76 : RF := fun call fuel base args m => match args with
  | [x0] => r76 call fuel base x0 m
  | _ => none
theorem r76_lk (call : CallF) (fuel base : Nat) : LoopsOk E call (lp76 call fuel base) fuel base 0 c76 = (And True (And True (And (And True (LpOk E call (lp76 call fuel base) fuel base 0 (loopB (blockB (seqR (seqL (seqR (seqR c76)))))))) (And True True)))) := by kernel_rfl
theorem r76_fn : E.P.funcs[76]? = some Try.f76 := by kernel_rfl
theorem r76_body : Try.f76.body = some c76 := by kernel_rfl
theorem rf76_ok : RFok E 76 rf76 := by
  show RFok' E 76 rf76
  refine ⟨Try.f76, r76_fn, fun call fuel base args m r _ h => ?_⟩
  unfold rf76 at h
  split at h
  · rw [← r76_eq] at h
    exact kbody_sound (c := c76) r76_body (Eq.mpr (r76_lk call fuel base) (And.intro trivial (And.intro trivial (And.intro (And.intro trivial (r76_L0_ok call fuel base)) (And.intro trivial trivial))))) h
  · simp at h
end Go.AM
namespace Go.AM
open Go Go.Proofs
noncomputable def r78 (call : CallF) (fuel base : Nat) (x0 : Value) (x1 : Value) (m : M) : Res2 :=
  (kc (call base 68 [x0] m) (fun v7_1 m => (kb v7_1 (some (.ret (.tuple #[(.slice none 0 0), (.int .i64 1)]), m)) (k1 (mbin E .lss 3 x1 (.int .i64 1)) fun v9_2 => (kb v9_2 (some (.ret (.tuple #[(.slice none 0 0), (.int .i64 6)]), m)) (k1 (mnil x0) fun v13_3 => (k1 (mfieldAddr E.P 57 v13_3 3) fun v14_4 => (k1 (xload E.P m 55 v14_4) fun v15_5 => (k2 (vcall E.P base m .len [55] [v15_5]) fun v16_6 m => (k1 (mbin E .gtr 3 x1 v16_6) fun v17_7 => (kb v17_7 (some (.ret (.tuple #[(.slice none 0 0), (.int .i64 6)]), m)) (k1 (mnil x0) fun v20_8 => (k1 (mfieldAddr E.P 57 v20_8 3) fun v21_9 => (k1 (xload E.P m 55 v21_9) fun v22_10 => (k1 (mbin E .sub 3 x1 (.int .i64 1)) fun v24_11 => (k1 (mindexAddr E.P 55 v22_10 v24_11) fun v25_12 => (k1 (xload E.P m 125 v25_12) fun v26_13 => (some (.ret (.tuple #[v26_13, (.int .i64 0)]), m)))))))))))))))))) (fun v m => some (.pan v, m)))
def keep78 : Keep := { region := fun i => ([[0, 1], [0, 1, 7], [4, 5], [0, 1, 18], [4, 5], [4, 5]] : List (List Nat))[i]?, exit := fun i => ([] : List (List Nat))[i]?, ret := some [4, 5] }
noncomputable def lp78 (call : CallF) (fuel base : Nat) : Lp := lpsel []
noncomputable def c78 : Code := Try.f78.body.getD .skip
theorem r78_eq (call : CallF) (fuel base : Nat) (x0 : Value) (x1 : Value) (m : M) : kbody E call keep78 (lp78 call fuel base) base Try.f78 [x0, x1] m = r78 call fuel base x0 x1 m := by
  kernel_rfl
noncomputable def rf78 : RF := fun call fuel base args m => match args with
  | [x0, x1] => r78 call fuel base x0 x1 m
  | _ => none
theorem r78_lk (call : CallF) (fuel base : Nat) : LoopsOk E call (lp78 call fuel base) fuel base 0 c78 = (And True (And (And True (And (And True True) True)) (And (And True (And (And True True) True)) (And True True)))) := by kernel_rfl
theorem r78_fn : E.P.funcs[78]? = some Try.f78 := by kernel_rfl
theorem r78_body : Try.f78.body = some c78 := by kernel_rfl
theorem rf78_ok : RFok E 78 rf78 := by
  show RFok' E 78 rf78
  refine ⟨Try.f78, r78_fn, fun call fuel base args m r _ h => ?_⟩
  unfold rf78 at h
  split at h
  · rw [← r78_eq] at h
    exact kbody_sound (c := c78) r78_body (Eq.mpr (r78_lk call fuel base) (And.intro trivial (And.intro (And.intro trivial (And.intro (And.intro trivial trivial) trivial)) (And.intro (And.intro trivial (And.intro (And.intro trivial trivial) trivial)) (And.intro trivial trivial))))) h
  · simp at h
end Go.AM
namespace Go.AM
open Go Go.Proofs
noncomputable def r79_L0 (call : CallF) (fuel base : Nat) (kp : Value → M → Res2) (kr : Value → M → Res2) (kx0 : M → Res2) (n : Nat) : Value → Value → Value → M → Res2 :=
  Nat.rec (motive := fun _ => Value → Value → Value → M → Res2) (fun _ _ _ _ => none)
    (fun _ ih x0 x5 x6 m =>
      (k1 (mbin E .lss 3 x6 x5) fun v7_2 => (kb v7_2 (k1 (mindexAddr E.P 125 x0 x6) fun v11_3 => (kc (call base 108 [v11_3] m) (fun v12_4 m => (k1 (mun .not v12_4) fun v13_5 => (kb v13_5 (kr (.bool false) m) (k1 (mbin E .add 3 x6 (.int .i64 1)) fun v14_6 => (ih x0 x5 v14_6 m))))) (fun v m => kp v m))) (kx0 m)))) n
noncomputable def r79 (call : CallF) (fuel base : Nat) (x0 : Value) (m : M) : Res2 :=
  (k2 (vcall E.P base m .len [125] [x0]) fun v5_1 m => (r79_L0 call fuel base (fun v m => some (.pan v, m)) (fun y2_7 m => (fVal y2_7 fun v => some (.ret v, m))) (fun m => (fVal (.bool true) fun v => some (.ret v, m))) fuel x0 v5_1 (.int .i64 0) m))
def keep79 : Keep := { region := fun i => ([[0], [0, 5, 6], [0, 5, 6, 7], [0, 3, 5, 6], [0, 5, 6, 13], [2], [0, 5, 6], [2]] : List (List Nat))[i]?, exit := fun i => ([[], [0, 5, 6]] : List (List Nat))[i]?, ret := some [2] }
noncomputable def r79_L0_R (call : CallF) (fuel base n : Nat) (vs : List Value) (m : M) (K : KT) : Res2 := match vs with
  | [x0, x5, x6] => r79_L0 call fuel base (fun v m => K (.pan v) { n := 15, l := [] } m) (fun y2 m => K .ret { n := 15, l := [(2, y2)] } m) (fun m => K (.exit 0) { n := 15, l := [] } m) n x0 x5 x6 m
  | _ => none
noncomputable def lp79 (call : CallF) (fuel base : Nat) : Lp := lpsel [(0, fun T m K => kslots 15 [0, 5, 6] T fun vs => r79_L0_R call fuel base fuel vs m K)]
noncomputable def c79 : Code := Try.f79.body.getD .skip
theorem r79_L0_lk (call : CallF) (fuel base : Nat) : LoopsOk E call (lp79 call fuel base) fuel base 0 (loopB (blockB (seqR (seqL (seqR c79))))) = (And True (And (And True True) (And (And True (And True (And (And True True) True))) True))) := by kernel_rfl
theorem r79_L0_ok (call : CallF) (fuel base : Nat) : LpOk E call (lp79 call fuel base) fuel base 0 (loopB (blockB (seqR (seqL (seqR c79))))) := by
  refine loop_ok (kp := keep79) (hb := Eq.mpr (r79_L0_lk call fuel base) (And.intro trivial (And.intro (And.intro trivial trivial) (And.intro (And.intro trivial (And.intro trivial (And.intro (And.intro trivial trivial) trivial))) trivial)))) 15 [0, 5, 6] (fun n vs m K => r79_L0_R call fuel base n vs m K) ?_ ?_ (fun _ _ _ => rfl)
  · intro vs m K
    unfold r79_L0_R
    split <;> rfl
  · intro n vs m K hl
    match vs, hl with
    | [x0, x5, x6], _ => show _ = _; kernel_rfl
theorem r79_eq (call : CallF) (fuel base : Nat) (x0 : Value) (m : M) : kbody E call keep79 (lp79 call fuel base) base Try.f79 [x0] m = r79 call fuel base x0 m := by
  kernel_rfl
noncomputable def rf79 : RF := fun call fuel base args m => match args with
  | [x0] => r79 call fuel base x0 m
  | _ => none
theorem r79_lk (call : CallF) (fuel base : Nat) : LoopsOk E call (lp79 call fuel base) fuel base 0 c79 = (And True (And (And True (LpOk E call (lp79 call fuel base) fuel base 0 (loopB (blockB (seqR (seqL (seqR c79))))))) (And True True))) := by kernel_rfl
theorem r79_fn : E.P.funcs[79]? = some Try.f79 := by kernel_rfl
theorem r79_body : Try.f79.body = some c79 := by kernel_rfl
theorem rf79_ok : RFok E 79 rf79 := by
  show RFok' E 79 rf79
  refine ⟨Try.f79, r79_fn, fun call fuel base args m r _ h => ?_⟩
  unfold rf79 at h
  split at h
  · rw [← r79_eq] at h
    exact kbody_sound (c := c79) r79_body (Eq.mpr (r79_lk call fuel base) (And.intro trivial (And.intro (And.intro trivial (r79_L0_ok call fuel base)) (And.intro trivial trivial)))) h
  · simp at h
end Go.AM
namespace Go.AM
open Go Go.Proofs
noncomputable def r80 (call : CallF) (fuel base : Nat) (x0 : Value) (x1 : Value) (m : M) : Res2 :=
  (kc (call base 78 [x0, x1] m) (fun v11_1 m => (k1 (mextract 0 v11_1) fun v12_2 => (k1 (mextract 1 v11_1) fun v13_3 => (k1 (mbin E .eql 26 v13_3 (.int .i64 0)) fun v15_4 => (kb v15_4 (kc (call base 79 [v12_2] m) (fun v18_5 m => (k1 (mun .not v18_5) fun v19_6 => (kb v19_6 (some (.ret (.tuple #[(.slice none 0 0), (.int .i64 9)]), m)) (some (.ret (.tuple #[v12_2, v13_3]), m))))) (fun v m => some (.pan v, m))) (some (.ret (.tuple #[v12_2, v13_3]), m))))))) (fun v m => some (.pan v, m)))
def keep80 : Keep := { region := fun i => ([[0, 1], [6, 7], [6, 7, 20], [4, 5], [4, 5]] : List (List Nat))[i]?, exit := fun i => ([] : List (List Nat))[i]?, ret := some [4, 5] }
noncomputable def lp80 (call : CallF) (fuel base : Nat) : Lp := lpsel []
noncomputable def c80 : Code := Try.f80.body.getD .skip
theorem r80_eq (call : CallF) (fuel base : Nat) (x0 : Value) (x1 : Value) (m : M) : kbody E call keep80 (lp80 call fuel base) base Try.f80 [x0, x1] m = r80 call fuel base x0 x1 m := by
  kernel_rfl
noncomputable def rf80 : RF := fun call fuel base args m => match args with
  | [x0, x1] => r80 call fuel base x0 x1 m
  | _ => none
theorem r80_lk (call : CallF) (fuel base : Nat) : LoopsOk E call (lp80 call fuel base) fuel base 0 c80 = (And True (And True (And (And True (And (And True True) True)) (And True True)))) := by kernel_rfl
theorem r80_fn : E.P.funcs[80]? = some Try.f80 := by kernel_rfl
theorem r80_body : Try.f80.body = some c80 := by kernel_rfl
theorem rf80_ok : RFok E 80 rf80 := by
  show RFok' E 80 rf80
  refine ⟨Try.f80, r80_fn, fun call fuel base args m r _ h => ?_⟩
  unfold rf80 at h
  split at h
  · rw [← r80_eq] at h
    exact kbody_sound (c := c80) r80_body (Eq.mpr (r80_lk call fuel base) (And.intro trivial (And.intro trivial (And.intro (And.intro trivial (And.intro (And.intro trivial trivial) trivial)) (And.intro trivial trivial))))) h
  · simp at h
end Go.AM
namespace Go.AM
open Go Go.Proofs
noncomputable def r81_L2 (call : CallF) (fuel base : Nat) (kp : Value → M → Res2) (kx2 : Value → Value → Value → Value → Value → Value → Value → M → Res2) (n : Nat) : Value → Value → Value → Value → Value → Value → Value → Value → Value → M → Res2 :=
  Nat.rec (motive := fun _ => Value → Value → Value → Value → Value → Value → Value → Value → Value → M → Res2) (fun _ _ _ _ _ _ _ _ _ _ => none)
    (fun _ ih x0 x2 x3 x4 x5 x8 x9 x16 x17 m =>
      (k1 (mbin E .lss 3 x17 x16) fun v18_8 => (kb v18_8 (k1 (mindexAddr E.P 125 x0 x17) fun v25_9 => (k1 (mfieldAddr E.P 147 v25_9 4) fun v26_10 => (k1 (mindexAddr E.P 145 v26_10 x4) fun v27_11 => (k1 (xload E.P m 22 v27_11) fun v28_12 => (kc (call base 74 [v28_12] m) (fun v29_13 m => (k1 (mindexAddr E.P 80 x5 x17) fun v30_14 => (ks (xstore E.P base m 22 v30_14 v29_13) fun m => (k1 (mbin E .add 3 x17 (.int .i64 1)) fun v31_15 => (ih x0 x2 x3 x4 x5 x8 x9 x16 v31_15 m))))) (fun v m => kp v m)))))) (kx2 x0 x2 x3 x4 x5 x8 x9 m)))) n
noncomputable def r81_L0 (call : CallF) (fuel base : Nat) (kp : Value → M → Res2) (kx0 : Value → Value → M → Res2) (n : Nat) : Value → Value → Value → Value → Value → M → Res2 :=
  Nat.rec (motive := fun _ => Value → Value → Value → Value → Value → M → Res2) (fun _ _ _ _ _ _ => none)
    (fun _ ih x0 x2 x3 x8 x9 m =>
      (k1 (mbin E .lss 3 x9 x8) fun v10_4 => (kb v10_4 (k2 (vcall E.P base m .len [125] [x0]) fun v13_5 m => (k2 (xmakeSlice E.P m 80 v13_5 v13_5) fun v14_6 m => (k2 (vcall E.P base m .len [125] [x0]) fun v16_7 m => (r81_L2 call fuel base (fun v m => kp v m) (fun y0_16 y2_17 y3_18 y4_19 y5_20 y8_21 y9_22 m => (k1 (mfieldAddr E.P 62 y3_18 0) fun v32_23 => (k1 (xload E.P m 22 v32_23) fun v33_24 => (k1 (mindexAddr E.P 125 y0_16 y4_19) fun v36_25 => (k1 (mfieldAddr E.P 147 v36_25 1) fun v37_26 => (k1 (xload E.P m 3 v37_26) fun v38_27 => (k2 (xbuildSlice E.P m 22 1 [(0, v38_27)]) fun v39_28 m => (k2 (vcall E.P base m .append [22, 22] [v33_24, v39_28]) fun v40_29 m => (k1 (mfieldAddr E.P 62 y3_18 0) fun v41_30 => (ks (xstore E.P base m 22 v41_30 v40_29) fun m => (k1 (mfieldAddr E.P 62 y3_18 1) fun v42_31 => (k1 (xload E.P m 60 v42_31) fun v43_32 => (k2 (xbuildSlice E.P m 60 1 [(0, y5_20)]) fun v45_33 m => (k2 (vcall E.P base m .append [60, 60] [v43_32, v45_33]) fun v46_34 m => (k1 (mfieldAddr E.P 62 y3_18 1) fun v47_35 => (ks (xstore E.P base m 60 v47_35 v46_34) fun m => (k1 (mbin E .add 3 y9_22 (.int .i64 1)) fun v48_36 => (ih y0_16 y2_17 y3_18 y8_21 v48_36 m)))))))))))))))))) fuel x0 x2 x3 x9 v14_6 x8 x9 v16_7 (.int .i64 0) m)))) (kx0 x2 x3 m)))) n
noncomputable def r81 (call : CallF) (fuel base : Nat) (x0 : Value) (m : M) : Res2 :=
  (k2 (xalloc E.P m 62) fun v2_1 m => (k2 (xalloc E.P m 62) fun v3_2 m => (k2 (vcall E.P base m .len [125] [x0]) fun v8_3 m => (r81_L0 call fuel base (fun v m => some (.pan v, m)) (fun y2_37 y3_38 m => (k1 (xload E.P m 62 y3_38) fun v49_39 => (ks (xstore E.P base m 62 y2_37 v49_39) fun m => (k0 (mload E.P m 62 y2_37) fun r_40 => (fVal r_40 fun v => some (.ret v, m)))))) fuel x0 v2_1 v3_2 v8_3 (.int .i64 0) m))))
def keep81 : Keep := { region := fun i => ([[0, 2], [0, 2, 3], [0, 2, 3, 8, 9], [0, 2, 3, 8, 9, 10], [0, 2, 3, 4, 8, 9], [0, 2, 3, 4, 5, 8, 9], [0, 2, 3, 4, 5, 8, 9, 16, 17], [0, 2, 3, 4, 5, 8, 9, 16, 17, 18], [0, 2, 3, 4, 5, 6, 8, 9, 16, 17], [0, 2, 3, 4, 5, 8, 9, 16, 17], [0, 2, 3, 4, 5, 8, 9, 16, 17], [0, 2, 3, 5, 8, 9], [0, 2, 3, 8, 9], [0, 2, 3, 8, 9], [2]] : List (List Nat))[i]?, exit := fun i => ([[2, 3], [0, 2, 3, 8, 9], [0, 2, 3, 4, 5, 8, 9], [0, 2, 3, 4, 5, 8, 9, 16, 17]] : List (List Nat))[i]?, ret := some [2] }
noncomputable def r81_L2_R (call : CallF) (fuel base n : Nat) (vs : List Value) (m : M) (K : KT) : Res2 := match vs with
  | [x0, x2, x3, x4, x5, x8, x9, x16, x17] => r81_L2 call fuel base (fun v m => K (.pan v) { n := 50, l := [] } m) (fun y0 y2 y3 y4 y5 y8 y9 m => K (.exit 2) { n := 50, l := [(0, y0), (2, y2), (3, y3), (4, y4), (5, y5), (8, y8), (9, y9)] } m) n x0 x2 x3 x4 x5 x8 x9 x16 x17 m
  | _ => none
noncomputable def r81_L0_R (call : CallF) (fuel base n : Nat) (vs : List Value) (m : M) (K : KT) : Res2 := match vs with
  | [x0, x2, x3, x8, x9] => r81_L0 call fuel base (fun v m => K (.pan v) { n := 50, l := [] } m) (fun y2 y3 m => K (.exit 0) { n := 50, l := [(2, y2), (3, y3)] } m) n x0 x2 x3 x8 x9 m
  | _ => none
noncomputable def lp81 (call : CallF) (fuel base : Nat) : Lp := lpsel [(2, fun T m K => kslots 50 [0, 2, 3, 4, 5, 8, 9, 16, 17] T fun vs => r81_L2_R call fuel base fuel vs m K), (0, fun T m K => kslots 50 [0, 2, 3, 8, 9] T fun vs => r81_L0_R call fuel base fuel vs m K)]
noncomputable def c81 : Code := Try.f81.body.getD .skip
theorem r81_L2_lk (call : CallF) (fuel base : Nat) : LoopsOk E call (lp81 call fuel base) fuel base 2 (loopB (blockB (seqR (seqL (seqR (seqR (blockB (seqL (seqR (seqR (loopB (blockB (seqR (seqL (seqR (seqR c81)))))))))))))))) = (And True (And (And True True) (And (And True True) True))) := by kernel_rfl
theorem r81_L2_ok (call : CallF) (fuel base : Nat) : LpOk E call (lp81 call fuel base) fuel base 2 (loopB (blockB (seqR (seqL (seqR (seqR (blockB (seqL (seqR (seqR (loopB (blockB (seqR (seqL (seqR (seqR c81)))))))))))))))) := by
  refine loop_ok (kp := keep81) (hb := Eq.mpr (r81_L2_lk call fuel base) (And.intro trivial (And.intro (And.intro trivial trivial) (And.intro (And.intro trivial trivial) trivial)))) 50 [0, 2, 3, 4, 5, 8, 9, 16, 17] (fun n vs m K => r81_L2_R call fuel base n vs m K) ?_ ?_ (fun _ _ _ => rfl)
  · intro vs m K
    unfold r81_L2_R
    split <;> rfl
  · intro n vs m K hl
    match vs, hl with
    | [x0, x2, x3, x4, x5, x8, x9, x16, x17], _ => show _ = _; kernel_rfl
theorem r81_L0_lk (call : CallF) (fuel base : Nat) : LoopsOk E call (lp81 call fuel base) fuel base 0 (loopB (blockB (seqR (seqL (seqR (seqR c81)))))) = (And True (And (And True True) (And (And True (And True (And (And True (LpOk E call (lp81 call fuel base) fuel base 2 (loopB (blockB (seqR (seqL (seqR (seqR (blockB (seqL (seqR (seqR (loopB (blockB (seqR (seqL (seqR (seqR c81)))))))))))))))))) (And True True)))) True))) := by kernel_rfl
theorem r81_L0_ok (call : CallF) (fuel base : Nat) : LpOk E call (lp81 call fuel base) fuel base 0 (loopB (blockB (seqR (seqL (seqR (seqR c81)))))) := by
  refine loop_ok (kp := keep81) (hb := Eq.mpr (r81_L0_lk call fuel base) (And.intro trivial (And.intro (And.intro trivial trivial) (And.intro (And.intro trivial (And.intro trivial (And.intro (And.intro trivial (r81_L2_ok call fuel base)) (And.intro trivial trivial)))) trivial)))) 50 [0, 2, 3, 8, 9] (fun n vs m K => r81_L0_R call fuel base n vs m K) ?_ ?_ (fun _ _ _ => rfl)
  · intro vs m K
    unfold r81_L0_R
    split <;> rfl
  · intro n vs m K hl
    match vs, hl with
    | [x0, x2, x3, x8, x9], _ => show _ = _; kernel_rfl
theorem r81_eq (call : CallF) (fuel base : Nat) (x0 : Value) (m : M) : kbody E call keep81 (lp81 call fuel base) base Try.f81 [x0] m = r81 call fuel base x0 m := by
  kernel_rfl
noncomputable def rf81 : RF := fun call fuel base args m => match args with
  | [x0] => r81 call fuel base x0 m
  | _ => none
theorem r81_lk (call : CallF) (fuel base : Nat) : LoopsOk E call (lp81 call fuel base) fuel base 0 c81 = (And True (And True (And (And True (LpOk E call (lp81 call fuel base) fuel base 0 (loopB (blockB (seqR (seqL (seqR (seqR c81)))))))) (And True True)))) := by kernel_rfl
theorem r81_fn : E.P.funcs[81]? = some Try.f81 := by kernel_rfl
theorem r81_body : Try.f81.body = some c81 := by kernel_rfl
theorem rf81_ok : RFok E 81 rf81 := by
  show RFok' E 81 rf81
  refine ⟨Try.f81, r81_fn, fun call fuel base args m r _ h => ?_⟩
  unfold rf81 at h
  split at h
  · rw [← r81_eq] at h
    exact kbody_sound (c := c81) r81_body (Eq.mpr (r81_lk call fuel base) (And.intro trivial (And.intro trivial (And.intro (And.intro trivial (r81_L0_ok call fuel base)) (And.intro trivial trivial))))) h
  · simp at h
end Go.AM
namespace Go.AM
open Go Go.Proofs
noncomputable def r92_L0 (call : CallF) (fuel base : Nat) (kp : Value → M → Res2) (kr : Value → M → Res2) (kx0 : M → Res2) (n : Nat) : Value → Value → Value → Value → M → Res2 :=
  Nat.rec (motive := fun _ => Value → Value → Value → Value → M → Res2) (fun _ _ _ _ _ => none)
    (fun _ ih x0 x1 x7 x8 m =>
      (k1 (mbin E .lss 3 x8 x7) fun v9_2 => (kb v9_2 (k1 (mindexAddr E.P 22 x0 x8) fun v14_3 => (k1 (xload E.P m 3 v14_3) fun v15_4 => (kc (kv call base x1 [v15_4] m) (fun v16_5 m => (kb v16_5 (kr x8 m) (k1 (mbin E .add 3 x8 (.int .i64 1)) fun v18_6 => (ih x0 x1 x7 v18_6 m)))) (fun v m => kp v m)))) (kx0 m)))) n
noncomputable def r92 (call : CallF) (fuel base : Nat) (x0 : Value) (x1 : Value) (m : M) : Res2 :=
  (k2 (vcall E.P base m .len [22] [x0]) fun v7_1 m => (r92_L0 call fuel base (fun v m => some (.pan v, m)) (fun y4_7 m => (fVal y4_7 fun v => some (.ret v, m))) (fun m => (fVal (.int .i64 (-1)) fun v => some (.ret v, m))) fuel x0 x1 v7_1 (.int .i64 0) m))
def keep92 : Keep := { region := fun i => ([[0, 1], [0, 1, 7, 8], [0, 1, 7, 8, 9], [0, 1, 5, 7, 8], [0, 1, 5, 7, 8, 16], [4], [0, 1, 7, 8], [4]] : List (List Nat))[i]?, exit := fun i => ([[], [0, 1, 7, 8]] : List (List Nat))[i]?, ret := some [4] }
noncomputable def r92_L0_R (call : CallF) (fuel base n : Nat) (vs : List Value) (m : M) (K : KT) : Res2 := match vs with
  | [x0, x1, x7, x8] => r92_L0 call fuel base (fun v m => K (.pan v) { n := 19, l := [] } m) (fun y4 m => K .ret { n := 19, l := [(4, y4)] } m) (fun m => K (.exit 0) { n := 19, l := [] } m) n x0 x1 x7 x8 m
  | _ => none
noncomputable def lp92 (call : CallF) (fuel base : Nat) : Lp := lpsel [(0, fun T m K => kslots 19 [0, 1, 7, 8] T fun vs => r92_L0_R call fuel base fuel vs m K)]
noncomputable def c92 : Code := Try.f92.body.getD .skip
theorem r92_L0_lk (call : CallF) (fuel base : Nat) : LoopsOk E call (lp92 call fuel base) fuel base 0 (loopB (blockB (seqR (seqL (seqR c92))))) = (And True (And (And True True) (And (And True (And True (And (And True True) True))) True))) := by kernel_rfl
theorem r92_L0_ok (call : CallF) (fuel base : Nat) : LpOk E call (lp92 call fuel base) fuel base 0 (loopB (blockB (seqR (seqL (seqR c92))))) := by
  refine loop_ok (kp := keep92) (hb := Eq.mpr (r92_L0_lk call fuel base) (And.intro trivial (And.intro (And.intro trivial trivial) (And.intro (And.intro trivial (And.intro trivial (And.intro (And.intro trivial trivial) trivial))) trivial)))) 19 [0, 1, 7, 8] (fun n vs m K => r92_L0_R call fuel base n vs m K) ?_ ?_ (fun _ _ _ => rfl)
  · intro vs m K
    unfold r92_L0_R
    split <;> rfl
  · intro n vs m K hl
    match vs, hl with
    | [x0, x1, x7, x8], _ => show _ = _; kernel_rfl
theorem r92_eq (call : CallF) (fuel base : Nat) (x0 : Value) (x1 : Value) (m : M) : kbody E call keep92 (lp92 call fuel base) base Try.f92 [x0, x1] m = r92 call fuel base x0 x1 m := by
  kernel_rfl
noncomputable def rf92 : RF := fun call fuel base args m => match args with
  | [x0, x1] => r92 call fuel base x0 x1 m
  | _ => none
theorem r92_lk (call : CallF) (fuel base : Nat) : LoopsOk E call (lp92 call fuel base) fuel base 0 c92 = (And True (And (And True (LpOk E call (lp92 call fuel base) fuel base 0 (loopB (blockB (seqR (seqL (seqR c92))))))) (And True True))) := by kernel_rfl
theorem r92_fn : E.P.funcs[92]? = some Try.f92 := by kernel_rfl
theorem r92_body : Try.f92.body = some c92 := by kernel_rfl
theorem rf92_ok : RFok E 92 rf92 := by
  show RFok' E 92 rf92
  refine ⟨Try.f92, r92_fn, fun call fuel base args m r _ h => ?_⟩
  unfold rf92 at h
  split at h
  · rw [← r92_eq] at h
    exact kbody_sound (c := c92) r92_body (Eq.mpr (r92_lk call fuel base) (And.intro trivial (And.intro (And.intro trivial (r92_L0_ok call fuel base)) (And.intro trivial trivial)))) h
  · simp at h
end Go.AM
namespace Go.AM
open Go Go.Proofs
noncomputable def r100 (call : CallF) (fuel base : Nat) (x0 : Value) (x1 : Value) (m : M) : Res2 :=
  (k2 (xbox m x1) fun v3_1 m => (k1 (mnil x0) fun v6_2 => (k1 (mfieldAddr E.P 57 v6_2 0) fun v7_3 => (k1 (xload E.P m 53 v7_3) fun v8_4 => (k1 (mfieldAddr E.P 72 v3_1 0) fun v9_5 => (k1 (xload E.P m 3 v9_5) fun v10_6 => (k1 (mindexAddr E.P 53 v8_4 v10_6) fun v11_7 => (k1 (mfieldAddr E.P 72 v3_1 0) fun v13_8 => (k1 (xload E.P m 3 v13_8) fun v14_9 => (k1 (mnil v11_7) fun v15_10 => (k1 (mfieldAddr E.P 114 v15_10 1) fun v16_11 => (k1 (mindexAddr E.P 112 v16_11 v14_9) fun v17_12 => (k1 (xload E.P m 3 v17_12) fun v18_13 => (k1 (mbin E .add 3 v18_13 (.int .i64 1)) fun v19_14 => (k1 (mnil v11_7) fun v20_15 => (k1 (mfieldAddr E.P 114 v20_15 1) fun v21_16 => (k1 (mindexAddr E.P 112 v21_16 v14_9) fun v22_17 => (ks (xstore E.P base m 3 v22_17 v19_14) fun m => (k1 (mnil v11_7) fun v24_18 => (k1 (mfieldAddr E.P 114 v24_18 1) fun v25_19 => (k1 (mnil x0) fun v27_20 => (k1 (mfieldAddr E.P 57 v27_20 0) fun v28_21 => (k1 (xload E.P m 53 v28_21) fun v29_22 => (k2 (vcall E.P base m .len [53] [v29_22]) fun v30_23 m => (k1 (mslice E.P m 112 v25_19 none (some v30_23) none) fun v31_24 => (kc (kB m (call m.length 74 [v31_24] m)) (fun v32_25 m => (k1 (mfieldAddr E.P 72 v3_1 4) fun v33_26 => (ks (xstore E.P base m 22 v33_26 v32_25) fun m => (k1 (mnil x0) fun v36_27 => (k1 (mfieldAddr E.P 57 v36_27 2) fun v37_28 => (k1 (xload E.P m 45 v37_28) fun v38_29 => (k1 (xload E.P m 72 v3_1) fun v39_30 => (k2 (xbuildSlice E.P m 45 1 [(0, v39_30)]) fun v40_31 m => (k2 (vcall E.P base m .append [45, 45] [v38_29, v40_31]) fun v41_32 m => (k1 (mnil x0) fun v42_33 => (k1 (mfieldAddr E.P 57 v42_33 2) fun v43_34 => (ks (xstore E.P base m 45 v43_34 v41_32) fun m => (some (.ret (.tuple #[]), m)))))))))))))) (fun _ _ => none)))))))))))))))))))))))))))
def keep100 : Keep := { region := fun i => ([[0, 3], [0, 3, 4], [0, 3, 4], [0, 3], []] : List (List Nat))[i]?, exit := fun i => ([] : List (List Nat))[i]?, ret := some [] }
noncomputable def lp100 (call : CallF) (fuel base : Nat) : Lp := lpsel []
noncomputable def c100 : Code := Try.f100.body.getD .skip
theorem r100_eq (call : CallF) (fuel base : Nat) (x0 : Value) (x1 : Value) (m : M) : kbody E call keep100 (lp100 call fuel base) base Try.f100 [x0, x1] m = r100 call fuel base x0 x1 m := by
  kernel_rfl
noncomputable def rf100 : RF := fun call fuel base args m => match args with
  | [x0, x1] => r100 call fuel base x0 x1 m
  | _ => none
theorem r100_lk (call : CallF) (fuel base : Nat) : LoopsOk E call (lp100 call fuel base) fuel base 0 c100 = (And True (And True (And True (And True True)))) := by kernel_rfl
theorem r100_fn : E.P.funcs[100]? = some Try.f100 := by kernel_rfl
theorem r100_body : Try.f100.body = some c100 := by kernel_rfl
theorem rf100_ok : RFok E 100 rf100 := by
  show RFok' E 100 rf100
  refine ⟨Try.f100, r100_fn, fun call fuel base args m r _ h => ?_⟩
  unfold rf100 at h
  split at h
  · rw [← r100_eq] at h
    exact kbody_sound (c := c100) r100_body (Eq.mpr (r100_lk call fuel base) (And.intro trivial (And.intro trivial (And.intro trivial (And.intro trivial trivial))))) h
  · simp at h
end Go.AM
namespace Go.AM
open Go Go.Proofs
noncomputable def r101 (call : CallF) (fuel base : Nat) (x0 : Value) (x1 : Value) (x2 : Value) (x3 : Value) (m : M) : Res2 :=
  (k1 (mnil x0) fun v9_1 => (k1 (mfieldAddr E.P 57 v9_1 1) fun v10_2 => (kexv (mexact m v10_2) (k1 (xload E.P m 54 v10_2) fun v11_3 => (k1 (mindexAddr E.P 54 v11_3 x1) fun v13_4 => (kexv (mexact m v13_4) (k1 (xload E.P m 104 v13_4) fun v14_5 => (k1 (mnil x0) fun v17_6 => (k1 (mfieldAddr E.P 57 v17_6 1) fun v18_7 => (k1 (xload E.P m 54 v18_7) fun v19_8 => (k1 (mindexAddr E.P 54 v19_8 x1) fun v21_9 => (k1 (xload E.P m 104 v21_9) fun v22_10 => (k1 (mindexAddr E.P 104 v22_10 x2) fun v24_11 => (k1 (xload E.P m 103 v24_11) fun v25_12 => (k2 (xbuildSlice E.P m 103 1 [(0, x3)]) fun v27_13 m => (kexv (mdifV [v25_12, v27_13] [v10_2, v13_4]) (k2 (vcall E.P base m .append [103, 103] [v25_12, v27_13]) fun v28_14 m => (k1 (mindexAddr E.P 104 v14_5 x2) fun v29_15 => (ks (xstore E.P base m 103 v29_15 v28_14) fun m => (some (.ret (.tuple #[]), m)))))))))))))))))))))
def keep101 : Keep := { region := fun i => ([[]] : List (List Nat))[i]?, exit := fun i => ([] : List (List Nat))[i]?, ret := some [] }
noncomputable def lp101 (call : CallF) (fuel base : Nat) : Lp := lpsel []
noncomputable def c101 : Code := Try.f101.body.getD .skip
theorem r101_eq (call : CallF) (fuel base : Nat) (x0 : Value) (x1 : Value) (x2 : Value) (x3 : Value) (m : M) : kbody E call keep101 (lp101 call fuel base) base Try.f101 [x0, x1, x2, x3] m = r101 call fuel base x0 x1 x2 x3 m := by
  kernel_rfl
noncomputable def rf101 : RF := fun call fuel base args m => match args with
  | [x0, x1, x2, x3] => r101 call fuel base x0 x1 x2 x3 m
  | _ => none
theorem r101_lk (call : CallF) (fuel base : Nat) : LoopsOk E call (lp101 call fuel base) fuel base 0 c101 = True := by kernel_rfl
theorem r101_fn : E.P.funcs[101]? = some Try.f101 := by kernel_rfl
theorem r101_body : Try.f101.body = some c101 := by kernel_rfl
theorem rf101_ok : RFok E 101 rf101 := by
  show RFok' E 101 rf101
  refine ⟨Try.f101, r101_fn, fun call fuel base args m r _ h => ?_⟩
  unfold rf101 at h
  split at h
  · rw [← r101_eq] at h
    exact kbody_sound (c := c101) r101_body (Eq.mpr (r101_lk call fuel base) trivial) h
  · simp at h
end Go.AM
namespace Go.AM
open Go Go.Proofs
noncomputable def r102 (call : CallF) (fuel base : Nat) (x0 : Value) (x1 : Value) (x2 : Value) (m : M) : Res2 :=
  (k1 (mnil x0) fun v8_1 => (k1 (mfieldAddr E.P 147 v8_1 3) fun v9_2 => (k1 (mindexAddr E.P 144 v9_2 x1) fun v10_3 => (k1 (xload E.P m 4 v10_3) fun v11_4 => (kb v11_4 (k1 (mnil x0) fun v16_5 => (k1 (mfieldAddr E.P 147 v16_5 4) fun v17_6 => (k1 (mindexAddr E.P 145 v17_6 x1) fun v18_7 => (k1 (xload E.P m 22 v18_7) fun v19_8 => (k2 (xbuildSlice E.P m 22 1 [(0, x2)]) fun v21_9 m => (k2 (vcall E.P base m .append [22, 22] [v19_8, v21_9]) fun v22_10 m => (k1 (mnil x0) fun v23_11 => (k1 (mfieldAddr E.P 147 v23_11 4) fun v24_12 => (k1 (mindexAddr E.P 145 v24_12 x1) fun v25_13 => (ks (xstore E.P base m 22 v25_13 v22_10) fun m => (some (.ret (.tuple #[]), m)))))))))))) (some (.ret (.tuple #[]), m)))))))
def keep102 : Keep := { region := fun i => ([[0, 1, 2, 11], []] : List (List Nat))[i]?, exit := fun i => ([] : List (List Nat))[i]?, ret := some [] }
noncomputable def lp102 (call : CallF) (fuel base : Nat) : Lp := lpsel []
noncomputable def c102 : Code := Try.f102.body.getD .skip
theorem r102_eq (call : CallF) (fuel base : Nat) (x0 : Value) (x1 : Value) (x2 : Value) (m : M) : kbody E call keep102 (lp102 call fuel base) base Try.f102 [x0, x1, x2] m = r102 call fuel base x0 x1 x2 m := by
  kernel_rfl
noncomputable def rf102 : RF := fun call fuel base args m => match args with
  | [x0, x1, x2] => r102 call fuel base x0 x1 x2 m
  | _ => none
theorem r102_lk (call : CallF) (fuel base : Nat) : LoopsOk E call (lp102 call fuel base) fuel base 0 c102 = (And True (And True True)) := by kernel_rfl
theorem r102_fn : E.P.funcs[102]? = some Try.f102 := by kernel_rfl
theorem r102_body : Try.f102.body = some c102 := by kernel_rfl
theorem rf102_ok : RFok E 102 rf102 := by
  show RFok' E 102 rf102
  refine ⟨Try.f102, r102_fn, fun call fuel base args m r _ h => ?_⟩
  unfold rf102 at h
  split at h
  · rw [← r102_eq] at h
    exact kbody_sound (c := c102) r102_body (Eq.mpr (r102_lk call fuel base) (And.intro trivial (And.intro trivial trivial))) h
  · simp at h
end Go.AM
namespace Go.AM
open Go Go.Proofs
noncomputable def r103_L0 (call : CallF) (fuel base : Nat) (kx0 : Value → Value → M → Res2) (n : Nat) : Value → Value → Value → Value → M → Res2 :=
  Nat.rec (motive := fun _ => Value → Value → Value → Value → M → Res2) (fun _ _ _ _ _ => none)
    (fun _ ih x2 x4 x7 x8 m =>
      (k1 (mbin E .lss 3 x8 (.int .i64 5)) fun v9_5 => (kb v9_5 (k1 (mindex E.P 112 x7 x8) fun v11_6 => (k1 (mindexAddr E.P 112 x2 x8) fun v14_7 => (k1 (xload E.P m 3 v14_7) fun v15_8 => (k2 (vcall E.P base m .max [3, 3] [v15_8, v11_6]) fun v17_9 m => (k1 (mindexAddr E.P 112 x2 x8) fun v18_10 => (ks (xstore E.P base m 3 v18_10 v17_9) fun m => (k1 (mbin E .add 3 x8 (.int .i64 1)) fun v19_11 => (ih x2 x4 x7 v19_11 m)))))))) (kx0 x2 x4 m)))) n
noncomputable def r103 (call : CallF) (fuel base : Nat) (x0 : Value) (x1 : Value) (m : M) : Res2 :=
  (k2 (xbox m x0) fun v2_1 m => (k2 (xbox m x1) fun v3_2 m => (k2 (xalloc E.P m 112) fun v4_3 m => (k1 (xload E.P m 112 v3_2) fun v7_4 => (r103_L0 call fuel base (fun y2_12 y4_13 m => (k1 (xload E.P m 112 y2_12) fun v20_14 => (ks (xstore E.P base m 112 y4_13 v20_14) fun m => (k0 (mload E.P m 112 y4_13) fun r_15 => (fVal r_15 fun v => some (.ret v, m)))))) fuel v2_1 v4_3 v7_4 (.int .i64 0) m)))))
def keep103 : Keep := { region := fun i => ([[2, 3, 4], [2, 4, 7, 8], [2, 4, 7, 8, 9], [2, 4, 5, 6, 7, 8], [2, 4, 7, 8], [2, 4, 7, 8], [4]] : List (List Nat))[i]?, exit := fun i => ([[2, 4], [2, 4, 7, 8]] : List (List Nat))[i]?, ret := some [4] }
noncomputable def r103_L0_R (call : CallF) (fuel base n : Nat) (vs : List Value) (m : M) (K : KT) : Res2 := match vs with
  | [x2, x4, x7, x8] => r103_L0 call fuel base (fun y2 y4 m => K (.exit 0) { n := 21, l := [(2, y2), (4, y4)] } m) n x2 x4 x7 x8 m
  | _ => none
noncomputable def lp103 (call : CallF) (fuel base : Nat) : Lp := lpsel [(0, fun T m K => kslots 21 [2, 4, 7, 8] T fun vs => r103_L0_R call fuel base fuel vs m K)]
noncomputable def c103 : Code := Try.f103.body.getD .skip
theorem r103_L0_lk (call : CallF) (fuel base : Nat) : LoopsOk E call (lp103 call fuel base) fuel base 0 (loopB (blockB (seqR (seqL (seqR c103))))) = (And True (And (And True True) (And (And True True) True))) := by kernel_rfl
theorem r103_L0_ok (call : CallF) (fuel base : Nat) : LpOk E call (lp103 call fuel base) fuel base 0 (loopB (blockB (seqR (seqL (seqR c103))))) := by
  refine loop_ok (kp := keep103) (hb := Eq.mpr (r103_L0_lk call fuel base) (And.intro trivial (And.intro (And.intro trivial trivial) (And.intro (And.intro trivial trivial) trivial)))) 21 [2, 4, 7, 8] (fun n vs m K => r103_L0_R call fuel base n vs m K) ?_ ?_ (fun _ _ _ => rfl)
  · intro vs m K
    unfold r103_L0_R
    split <;> rfl
  · intro n vs m K hl
    match vs, hl with
    | [x2, x4, x7, x8], _ => show _ = _; kernel_rfl
theorem r103_eq (call : CallF) (fuel base : Nat) (x0 : Value) (x1 : Value) (m : M) : kbody E call keep103 (lp103 call fuel base) base Try.f103 [x0, x1] m = r103 call fuel base x0 x1 m := by
  kernel_rfl
noncomputable def rf103 : RF := fun call fuel base args m => match args with
  | [x0, x1] => r103 call fuel base x0 x1 m
  | _ => none
theorem r103_lk (call : CallF) (fuel base : Nat) : LoopsOk E call (lp103 call fuel base) fuel base 0 c103 = (And True (And (And True (LpOk E call (lp103 call fuel base) fuel base 0 (loopB (blockB (seqR (seqL (seqR c103))))))) (And True True))) := by kernel_rfl
theorem r103_fn : E.P.funcs[103]? = some Try.f103 := by kernel_rfl
theorem r103_body : Try.f103.body = some c103 := by kernel_rfl
theorem rf103_ok : RFok E 103 rf103 := by
  show RFok' E 103 rf103
  refine ⟨Try.f103, r103_fn, fun call fuel base args m r _ h => ?_⟩
  unfold rf103 at h
  split at h
  · rw [← r103_eq] at h
    exact kbody_sound (c := c103) r103_body (Eq.mpr (r103_lk call fuel base) (And.intro trivial (And.intro (And.intro trivial (r103_L0_ok call fuel base)) (And.intro trivial trivial)))) h
  · simp at h
end Go.AM
namespace Go.AM
open Go Go.Proofs
noncomputable def r104_L0 (call : CallF) (fuel base : Nat) (kx0 : Value → M → Res2) (n : Nat) : Value → Value → Value → Value → M → Res2 :=
  Nat.rec (motive := fun _ => Value → Value → Value → Value → M → Res2) (fun _ _ _ _ _ => none)
    (fun _ ih x3 x8 x9 x10 m =>
      (k1 (mbin E .lss 3 x10 x9) fun v11_2 => (kb v11_2 (k1 (mindexAddr E.P 103 x8 x10) fun v12_3 => (k1 (xload E.P m 106 v12_3) fun v13_4 => (k1 (mtassert E.P 117 true v13_4) fun v16_5 => (k1 (mextract 0 v16_5) fun v17_6 => (k1 (mextract 1 v16_5) fun v18_7 => (k2 (xalloc E.P m 117) fun v6_8 m => (ks (xstore E.P base m 117 v6_8 v17_6) fun m => (kb v18_7 (k1 (mfieldAddr E.P 117 v6_8 0) fun v21_9 => (k1 (xload E.P m 3 v21_9) fun v22_10 => (k1 (mbin E .add 3 x3 v22_10) fun v23_11 => (k1 (mbin E .add 3 x10 (.int .i64 1)) fun v24_12 => (ih v23_11 x8 x9 v24_12 m))))) (k1 (mbin E .add 3 x10 (.int .i64 1)) fun v24_13 => (ih x3 x8 x9 v24_13 m)))))))))) (kx0 x3 m)))) n
noncomputable def r104 (call : CallF) (fuel base : Nat) (x0 : Value) (m : M) : Res2 :=
  (k2 (vcall E.P base m .len [103] [x0]) fun v9_1 m => (r104_L0 call fuel base (fun y3_14 m => (fVal y3_14 fun v => some (.ret v, m))) fuel (.int .i64 0) x0 v9_1 (.int .i64 0) m))
def keep104 : Keep := { region := fun i => ([[0], [0, 3], [3, 8, 9, 10], [3, 8, 9, 10, 11], [3, 5, 8, 9, 10], [3, 6, 7, 8, 9, 10], [3, 6, 8, 9, 10, 19], [3, 8, 9, 10], [3, 8, 9, 10], [2]] : List (List Nat))[i]?, exit := fun i => ([[3], [3, 8, 9, 10]] : List (List Nat))[i]?, ret := some [2] }
noncomputable def r104_L0_R (call : CallF) (fuel base n : Nat) (vs : List Value) (m : M) (K : KT) : Res2 := match vs with
  | [x3, x8, x9, x10] => r104_L0 call fuel base (fun y3 m => K (.exit 0) { n := 26, l := [(3, y3)] } m) n x3 x8 x9 x10 m
  | _ => none
noncomputable def lp104 (call : CallF) (fuel base : Nat) : Lp := lpsel [(0, fun T m K => kslots 26 [3, 8, 9, 10] T fun vs => r104_L0_R call fuel base fuel vs m K)]
noncomputable def c104 : Code := Try.f104.body.getD .skip
theorem r104_L0_lk (call : CallF) (fuel base : Nat) : LoopsOk E call (lp104 call fuel base) fuel base 0 (loopB (blockB (seqR (seqL (seqR (seqR c104)))))) = (And True (And (And True True) (And (And True (And True (And True (And True True)))) True))) := by kernel_rfl
theorem r104_L0_ok (call : CallF) (fuel base : Nat) : LpOk E call (lp104 call fuel base) fuel base 0 (loopB (blockB (seqR (seqL (seqR (seqR c104)))))) := by
  refine loop_ok (kp := keep104) (hb := Eq.mpr (r104_L0_lk call fuel base) (And.intro trivial (And.intro (And.intro trivial trivial) (And.intro (And.intro trivial (And.intro trivial (And.intro trivial (And.intro trivial trivial)))) trivial)))) 26 [3, 8, 9, 10] (fun n vs m K => r104_L0_R call fuel base n vs m K) ?_ ?_ (fun _ _ _ => rfl)
  · intro vs m K
    unfold r104_L0_R
    split <;> rfl
  · intro n vs m K hl
    match vs, hl with
    | [x3, x8, x9, x10], _ => show _ = _; kernel_rfl
theorem r104_eq (call : CallF) (fuel base : Nat) (x0 : Value) (m : M) : kbody E call keep104 (lp104 call fuel base) base Try.f104 [x0] m = r104 call fuel base x0 m := by
  kernel_rfl
noncomputable def rf104 : RF := fun call fuel base args m => match args with
  | [x0] => r104 call fuel base x0 m
  | _ => none
theorem r104_lk (call : CallF) (fuel base : Nat) : LoopsOk E call (lp104 call fuel base) fuel base 0 c104 = (And True (And True (And (And True (LpOk E call (lp104 call fuel base) fuel base 0 (loopB (blockB (seqR (seqL (seqR (seqR c104)))))))) (And True True)))) := by kernel_rfl
theorem r104_fn : E.P.funcs[104]? = some Try.f104 := by kernel_rfl
theorem r104_body : Try.f104.body = some c104 := by kernel_rfl
theorem rf104_ok : RFok E 104 rf104 := by
  show RFok' E 104 rf104
  refine ⟨Try.f104, r104_fn, fun call fuel base args m r _ h => ?_⟩
  unfold rf104 at h
  split at h
  · rw [← r104_eq] at h
    exact kbody_sound (c := c104) r104_body (Eq.mpr (r104_lk call fuel base) (And.intro trivial (And.intro trivial (And.intro (And.intro trivial (r104_L0_ok call fuel base)) (And.intro trivial trivial))))) h
  · simp at h
end Go.AM
