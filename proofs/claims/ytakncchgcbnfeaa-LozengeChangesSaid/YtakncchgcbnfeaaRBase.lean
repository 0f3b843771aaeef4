import Derived.KernelRfl
import Derived.Laws.BytesArg
import Derived.Laws.StructEq
import Derived.RangeFuncLeaves
import Derived.RangeFuncRecord
import Derived.Test.YtakncchgcbnfeaaProg
import Derived.Test.YtakncchgcbnfeaaRows
import Derived.WalkKit
import Derived.Test.YtakncchgcbnfeaaAmB
import Derived.Test.YtakncchgcbnfeaaAmG
import Derived.Test.YtakncchgcbnfeaaAmModel
import Derived.Test.YtakncchgcbnfeaaAmRel
import Derived.Test.YtakncchgcbnfeaaAmOps6
import Derived.Test.YtakncchgcbnfeaaAmCode
import Derived.Test.YtakncchgcbnfeaaAmDraw5
import Derived.Test.YtakncchgcbnfeaaAmEq
set_option linter.unusedVariables false
set_option linter.unusedSimpArgs false
set_option linter.unusedSectionVars false
namespace Go.AM
open Go Go.Proofs
noncomputable def E : Env where
  P := Try.prog
  pure := fun f => [12,13,14,15,18,19,20,22,23,24,25,26,36,37,39,40,41,43,45,46,47,48,49,50,51,52,55,56,57,58,59,62,63,64,67,73,74,75,76,79,80,82,85,86,87,88,89,90,91,93,94,95,96,103,104,108,109,110,111,112,113,115,124,125,126,127,128,130].contains f
  eqt := fun t => if t == 65 then [0, 2] else if t == 69 then [0, 2, 4] else if t == 67 then [0, 2, 4] else if t == 76 then [0, 2, 4, 6] else if t == 79 then [0, 2, 4, 6, 8, 10, 12, 14, 16, 18, 20, 22, 24, 26, 28, 30, 32, 34, 36] else []
  live := fun _ _ => none
def fieldSum (P : Program) (t : TypeId) : List (Nat × Nat × Bool) := (P.fieldsOf t).toList.map fun f => (f.type, f.offset, f.name == "_")
theorem flat_of {P : Program} {t : TypeId} {l : List (Nat × Nat × Bool)} {k : IntKind} (h1 : P.underlying t = some (.struct (P.fieldsOf t))) (h2 : P.stoodInHeld t = false) (h3 : P.eqGuardType P.depth t = false)
    (h3' : P.underlying 3 = some (.int k)) (h4' : P.underlying 4 = some .bool) (h4 : fieldSum P t = l) (h5 : ∀ q ∈ l, (q.1 = 3 ∨ q.1 = 4) ∧ q.2.2 = false) : flatFields P t (l.map fun q => 2 * q.2.1 + (if q.1 = 4 then 1 else 0)) := by
  have b3 : isBoolT P 3 = 0 := by unfold isBoolT; rw [h3']
  have b4 : isBoolT P 4 = 1 := by unfold isBoolT; rw [h4']
  have hq : ∀ f ∈ (P.fieldsOf t).toList, ((f.type = 3 ∨ f.type = 4) ∧ (f.name == "_") = false) := fun f hf =>
    h5 (f.type, f.offset, f.name == "_") (by rw [← h4]; exact List.mem_map.2 ⟨f, hf, rfl⟩)
  refine ⟨⟨h1, h2, h3⟩, ?_, fun f hf => ?_⟩
  · rw [← h4]
    unfold fieldSum
    rw [List.map_map]
    refine List.map_congr_left fun f hf => ?_
    rcases (hq f hf).1 with e | e
    · simp [e, b3]
    · simp [e, b4]
  · obtain ⟨e1, e2⟩ := hq f hf
    simp only [beq_eq_false_iff_ne] at e2
    refine ⟨?_, e2⟩
    rcases e1 with e | e
    · exact .inl ⟨⟨k, by rw [e]; exact h3'⟩, by rw [e]; exact b3⟩
    · exact .inr ⟨by rw [e]; exact h4', by rw [e]; exact b4⟩
theorem u3 : Try.prog.underlying 3 = some (.int .i64) := by kernel_rfl
theorem u4 : Try.prog.underlying 4 = some .bool := by kernel_rfl
theorem fl65 : flatFields Try.prog 65 [0, 2] := flat_of (l := [(3,0,false),(3,1,false)]) (by kernel_rfl) (by kernel_rfl) (by kernel_rfl) u3 u4 (by kernel_rfl) (by simp)
theorem fl69 : flatFields Try.prog 69 [0, 2, 4] := flat_of (l := [(3,0,false),(3,1,false),(3,2,false)]) (by kernel_rfl) (by kernel_rfl) (by kernel_rfl) u3 u4 (by kernel_rfl) (by simp)
theorem ae67 (d : Nat) : AEq Try.prog (d + 2) 67 [0, 2, 4] := aeq_array (len := 3) (elem := 3) (n := 1) (is := [0]) (by kernel_rfl) (by kernel_rfl) (peq_int u3 d)
theorem ae76 (d : Nat) : AEq Try.prog (d + 2) 76 [0, 2, 4, 6] := aeq_array (len := 4) (elem := 3) (n := 1) (is := [0]) (by kernel_rfl) (by kernel_rfl) (peq_int u3 d)
theorem pe76 (d : Nat) : PEq Try.prog (d + 2) 76 [0, 2, 4, 6] := PEq.of_agg (n := 4) (by kernel_rfl) (by kernel_rfl) (by decide) (ae76 d)
theorem ae77 (d : Nat) : AEq Try.prog (d + 3) 77 [0, 2, 4, 6, 8, 10, 12, 14, 16, 18, 20, 22, 24, 26, 28, 30] := aeq_array (len := 4) (elem := 76) (n := 4) (is := [0, 2, 4, 6]) (by kernel_rfl) (by kernel_rfl) (pe76 d)
theorem pe77 (d : Nat) : PEq Try.prog (d + 3) 77 [0, 2, 4, 6, 8, 10, 12, 14, 16, 18, 20, 22, 24, 26, 28, 30] := PEq.of_agg (n := 16) (by kernel_rfl) (by kernel_rfl) (by decide) (ae77 d)
/-- A struct's fields, by their types, places and names. -/
theorem aeq_fields {P : Program} {t : TypeId} {d : Nat} {l : List (Nat × Nat × Bool)} (ht : P.underlying t = some (.struct (P.fieldsOf t))) (hp : P.stoodInHeld t = false) (h4 : fieldSum P t = l) (g : Nat → List Nat)
    (h : ∀ q ∈ l, PEq P d q.1 (g q.1) ∧ q.2.2 = false) : AEq P (d + 1) t (l.flatMap fun q => (g q.1).map (· + 2 * q.2.1)) := by
  have hz : (P.fieldsOf t).toList.zip ((P.fieldsOf t).toList.map fun f => g f.type) = (P.fieldsOf t).toList.map fun f => (f, g f.type) := by
    generalize (P.fieldsOf t).toList = fs
    induction fs with
    | nil => rfl
    | cons f fs ih => simp [ih]
  have := aeq_struct (d := d) ht hp (iss := (P.fieldsOf t).toList.map fun f => g f.type) (by simp) (by
    rw [hz]
    intro p hp
    obtain ⟨f, hf, rfl⟩ := List.mem_map.1 hp
    have := h (f.type, f.offset, f.name == "_") (by rw [← h4]; exact List.mem_map.2 ⟨f, hf, rfl⟩)
    refine ⟨this.1, ?_⟩
    have h2 := this.2
    simpa using h2)
  rw [hz, List.flatMap_map] at this
  rw [← h4]
  unfold fieldSum
  rw [List.flatMap_map]
  exact this
theorem ae23 (d : Nat) : AEq Try.prog (d + 2) 23 [0, 2, 4] := aeq_fields (l := [(3,0,false),(3,1,false),(3,2,false)]) (by kernel_rfl) (by kernel_rfl) (by kernel_rfl) (fun _ => [0]) (by
  intro q hq
  simp at hq
  rcases hq with rfl | rfl | rfl <;> exact ⟨peq_int u3 d, rfl⟩)
theorem pe23 (d : Nat) : PEq Try.prog (d + 2) 23 [0, 2, 4] := PEq.of_agg (n := 3) (by kernel_rfl) (by kernel_rfl) (by decide) (ae23 d)
theorem ae79 (d : Nat) : AEq Try.prog (d + 4) 79 [0, 2, 4, 6, 8, 10, 12, 14, 16, 18, 20, 22, 24, 26, 28, 30, 32, 34, 36] :=
  aeq_fields (l := [(23,0,false),(77,3,false)]) (by kernel_rfl) (by kernel_rfl) (by kernel_rfl) (fun t => if t = 23 then [0, 2, 4] else [0, 2, 4, 6, 8, 10, 12, 14, 16, 18, 20, 22, 24, 26, 28, 30]) (by
  intro q hq
  simp at hq
  rcases hq with rfl | rfl
  · exact ⟨pe23 (d + 1), rfl⟩
  · exact ⟨pe77 d, rfl⟩)
theorem nogAll : (Try.prog.funcs.toList.all fun fn => !(fn.body.isSome && fn.name == "runtime.NumGoroutine")) = true := by kernel_rfl
theorem keysNodup : (siteTab.map (·.key)).Nodup := by
  have h : siteTab.map (·.key) = [8205, 968610, 549275, 856855] := by kernel_rfl
  rw [h]; decide
theorem sitesAll : (Try.prog.funcs.toList.zipIdx.all fun p => siteFns.contains p.2 || ((p.1.body.map fun c => (sitesOf c).isEmpty).getD true)) = true := by kernel_rfl
theorem site_of {f : Nat} (hf : f ∈ siteFns) {s : Site} (hs : s ∈ sitesOf (fcode f)) : gsite s.key = some s :=
  findSite_of keysNodup (List.mem_flatMap.2 ⟨f, hf, hs⟩)
theorem E_good : E.Good where
  eqt := by
    intro t xs ys r w x y hne hc
    have ht : t = 65 ∨ t = 69 ∨ t = 67 ∨ t = 76 ∨ t = 79 := by
      unfold E at hne
      simp only [beq_iff_eq] at hne
      by_cases h1 : t = 65
      · exact .inl h1
      by_cases h2 : t = 69
      · exact .inr (.inl h2)
      by_cases h3 : t = 67
      · exact .inr (.inr (.inl h3))
      by_cases h4 : t = 76
      · exact .inr (.inr (.inr (.inl h4)))
      by_cases h5 : t = 79
      · exact .inr (.inr (.inr (.inr h5)))
      simp [h1, h2, h3, h4, h5] at hne
    rcases ht with rfl | rfl | rfl | rfl | rfl
    · exact eqt_flat fl65 w x y hc
    · exact eqt_flat fl69 w x y hc
    · exact eqt_deep (by kernel_rfl) (ae67 9998) w x y hc
    · exact eqt_deep (by kernel_rfl) (ae76 9998) w x y hc
    · exact eqt_deep (by kernel_rfl) (ae79 9996) w x y hc
  nog := by
    intro f fn hf hb
    have h := List.all_eq_true.1 nogAll fn (Array.mem_toList_iff.2 (Array.mem_of_getElem? hf))
    simpa [hb] using h
  sites := by
    intro f fn c hf hc s hs
    have h := List.all_eq_true.1 sitesAll (fn, f) (by rw [List.mem_zipIdx_iff_getElem?]; have hf' : Try.prog.funcs[f]? = some fn := hf; simpa using hf')
    simp only [Bool.or_eq_true] at h
    rcases h with h | h
    · refine site_of (f := f) (by simpa using h) ?_
      have e : fcode f = c := by
        show (((E.P.funcs[f]?).bind (·.body)).getD .skip) = c
        rw [hf]
        simp [hc]
      rw [e]; exact hs
    · rw [hc] at h
      simp only [Option.map_some, Option.getD_some, List.isEmpty_iff] at h
      rw [h] at hs
      simp at hs
  tab := by
    intro k s hs
    obtain ⟨hm, _⟩ := findSite_mem hs
    obtain ⟨f, hf, hm⟩ := List.mem_flatMap.1 hm
    have := sitesOf_sub hm
    exact ⟨fun t ht => site_of hf (this.1 t ht), fun t ht => site_of hf (this.2 t ht)⟩
theorem E_mix : E.P.follows .mixedOrders = true := by kernel_rfl
def B2 : Prop := And True True
def B3 : Prop := And True B2
def B4 : Prop := And True B3
def B5 : Prop := And True B4
def B6 : Prop := And True B5
def D2 : Prop := And B2 True
def D3 : Prop := And True D2
def D4 : Prop := And B2 B2
def D5 : Prop := And D3 B2
theorem q2 : B2 := ⟨trivial, trivial⟩
theorem q3 : B3 := ⟨trivial, q2⟩
theorem q4 : B4 := ⟨trivial, q3⟩
theorem q5 : B5 := ⟨trivial, q4⟩
theorem q6 : B6 := ⟨trivial, q5⟩
theorem e2 : D2 := ⟨q2, trivial⟩
theorem e3 : D3 := ⟨trivial, e2⟩
theorem e4 : D4 := ⟨q2, q2⟩
theorem e5 : D5 := ⟨e3, q2⟩
abbrev LQ (lp : CallF → Nat → Nat → Lp) (call : CallF) (fuel base k : Nat) (c : Code) : Prop := LpOk E call (lp call fuel base) fuel base k c
end Go.AM
namespace Go.AM
open Go Go.Proofs
noncomputable def r5 (call : CallF) (fuel base : Nat) (x0 : Value) (x1 : Value) (m : M) : Res2 :=
  (k2 (xbox m x0) fun u1 m => (kc (call base 20 [x1] m) (fun u2 m => (k1 (mun .not u2) fun u3 => (kb u3 (kc (call base 19 [] m) (fun u4 m => (fVal u4 fun v => some (.ret v, m))) (fun v m => some (.pan v, m))) (kc (call base 21 [x1] m) (fun u5 m => (k1 (xload E.P m 23 u1) fun u6 => (kc (call base 29 [u6, u5] m) (fun u7 m => (k1 (mextract 0 u7) fun u8 => (k1 (mextract 1 u7) fun u9 => (k1 (xload E.P m 23 u1) fun u10 => (kc (call base 30 [u10, u5] m) (fun u11 m => (k1 (mextract 0 u11) fun u12 => (k1 (mextract 1 u11) fun u13 => (k1 (xload E.P m 23 u1) fun u14 => (kc (call base 31 [u14, u5] m) (fun u15 m => (k1 (mextract 0 u15) fun u16 => (k1 (mextract 1 u15) fun u17 => (k1 (xload E.P m 23 u1) fun u18 => (kc (call base 32 [u18, u5] m) (fun u19 m => (k1 (mextract 0 u19) fun u20 => (k1 (mextract 1 u19) fun u21 => (k1 (mextract 2 u19) fun u22 => (k1 (xload E.P m 23 u1) fun u23 => (kc (call base 33 [u23, u5] m) (fun u24 m => (k1 (mextract 0 u24) fun u25 => (k1 (mextract 1 u24) fun u26 => (k1 (xload E.P m 23 u1) fun u27 => (kc (call base 34 [u27, x1] m) (fun u28 m => (k1 (mextract 0 u28) fun u29 => (k1 (mextract 1 u28) fun u30 => (k1 (mextract 2 u28) fun u31 => (k1 (xload E.P m 23 u1) fun u32 => (kc (call base 35 [u32, x1] m) (fun u33 m => (k1 (mextract 0 u33) fun u34 => (k1 (mextract 1 u33) fun u35 => (k1 (mbin E .neq 24 u22 u31) fun u36 => (kb u36 (fVal (.bool false) fun v => some (.ret v, m)) (k1 (mbin E .neq 24 u26 u35) fun u37 => (kb u37 (fVal (.bool false) fun v => some (.ret v, m)) (k1 (mbin E .neq 24 u9 u31) fun u38 => (kb u38 (fVal (.bool false) fun v => some (.ret v, m)) (k1 (mbin E .neq 24 u13 u31) fun u39 => (kb u39 (fVal (.bool false) fun v => some (.ret v, m)) (k1 (mbin E .neq 24 u17 u31) fun u40 => (kb u40 (fVal (.bool false) fun v => some (.ret v, m)) (kc (call base 36 [u20, u29] m) (fun u41 m => (k1 (mun .not u41) fun u42 => (kb u42 (fVal (.bool false) fun v => some (.ret v, m)) (kc (call base 36 [u21, u30] m) (fun u43 m => (k1 (mun .not u43) fun u44 => (kb u44 (fVal (.bool false) fun v => some (.ret v, m)) (kc (call base 37 [u25, u34] m) (fun u45 m => (k1 (mun .not u45) fun u46 => (kb u46 (fVal (.bool false) fun v => some (.ret v, m)) (k1 (mbin E .neq 24 u31 (.int .i64 0)) fun u47 => (kb u47 (k2 (vcall E.P base m .len [33] [u8]) fun u48 m => (k2 (vcall E.P base m .len [33] [u12]) fun u49 m => (k1 (mbin E .add 3 u48 u49) fun u50 => (k2 (vcall E.P base m .len [33] [u16]) fun u51 m => (k1 (mbin E .add 3 u50 u51) fun u52 => (k1 (mbin E .eql 3 u52 (.int .i64 0)) fun u53 => (kb u53 (kc (call base 19 [] m) (fun u54 m => (fVal u54 fun v => some (.ret v, m))) (fun v m => some (.pan v, m))) (fVal (.bool false) fun v => some (.ret v, m))))))))) (k1 (xload E.P m 23 u1) fun u55 => (kc (call base 38 [u55, x1, (.int .i64 1)] m) (fun u56 m => (kc (call base 26 [u8, u56] m) (fun u57 m => (kb u57 (k1 (xload E.P m 23 u1) fun u58 => (kc (call base 38 [u58, x1, (.int .i64 2)] m) (fun u59 m => (kc (call base 26 [u12, u59] m) (fun u60 m => (kb u60 (k1 (xload E.P m 23 u1) fun u61 => (kc (call base 38 [u61, x1, (.int .i64 3)] m) (fun u62 m => (kc (call base 26 [u16, u62] m) (fun u63 m => (kb u63 (kc (call base 26 [u5, x1] m) (fun u64 m => (kb u64 (kc (call base 19 [] m) (fun u65 m => (fVal u65 fun v => some (.ret v, m))) (fun v m => some (.pan v, m))) (fVal (.bool false) fun v => some (.ret v, m)))) (fun v m => some (.pan v, m))) (fVal (.bool false) fun v => some (.ret v, m)))) (fun v m => some (.pan v, m)))) (fun v m => some (.pan v, m)))) (fVal (.bool false) fun v => some (.ret v, m)))) (fun v m => some (.pan v, m)))) (fun v m => some (.pan v, m)))) (fVal (.bool false) fun v => some (.ret v, m)))) (fun v m => some (.pan v, m)))) (fun v m => some (.pan v, m))))))))) (fun v m => some (.pan v, m)))))) (fun v m => some (.pan v, m)))))) (fun v m => some (.pan v, m)))))))))))))))) (fun v m => some (.pan v, m)))))))) (fun v m => some (.pan v, m))))))) (fun v m => some (.pan v, m)))))))) (fun v m => some (.pan v, m))))))) (fun v m => some (.pan v, m))))))) (fun v m => some (.pan v, m))))))) (fun v m => some (.pan v, m))))) (fun v m => some (.pan v, m)))))) (fun v m => some (.pan v, m))))
def keep5 : Keep := { region := fun i => ([[1, 2], [1, 2, 24], [4], [1, 2, 5], [1, 2, 5, 6, 7], [1, 2, 5, 6, 7, 8, 9], [1, 2, 5, 6, 7, 8, 9, 10, 11], [1, 2, 5, 6, 7, 8, 9, 10, 11, 12, 13, 14], [1, 2, 5, 6, 7, 8, 9, 10, 11, 12, 13, 14, 15, 16], [1, 2, 5, 6, 7, 8, 9, 10, 11, 12, 13, 14, 15, 16, 17, 18, 19], [1, 2, 5, 6, 7, 8, 9, 10, 11, 12, 13, 14, 15, 16, 17, 18, 19, 20, 21], [1, 2, 5, 6, 8, 10, 19, 112], [4], [1, 2, 5, 6, 8, 10, 114], [4], [4]] : List (List Nat))[i]?, exit := fun i => ([] : List (List Nat))[i]?, ret := some [4] }
noncomputable def lp5 (call : CallF) (fuel base : Nat) : Lp := lpsel []
noncomputable def c5 : Code := Try.f5.body.getD .skip
theorem r5_eq (call : CallF) (fuel base : Nat) (x0 : Value) (x1 : Value) (m : M) : kbody E call keep5 (lp5 call fuel base) base Try.f5 [x0, x1] m = r5 call fuel base x0 x1 m := by
  kernel_rfl
noncomputable def rf5 : RF := fun call fuel base args m => match args with
  | [x0, x1] => r5 call fuel base x0 x1 m
  | _ => none
theorem rf5_ok : RFok E 5 rf5 := by
  show RFok' E 5 rf5
  refine ⟨Try.f5, (by kernel_rfl), fun call fuel base args m r _ h => ?_⟩
  unfold rf5 at h
  split at h
  · rw [← r5_eq] at h
    exact kbody_sound (c := c5) (by kernel_rfl) (Eq.mpr (show _ = (And True (And D3 (And True (And True (And True (And True (And True (And True (And True (And True (And D3 D5))))))))))) by kernel_rfl) ⟨trivial, ⟨e3, ⟨trivial, ⟨trivial, ⟨trivial, ⟨trivial, ⟨trivial, ⟨trivial, ⟨trivial, ⟨trivial, ⟨e3, e5⟩⟩⟩⟩⟩⟩⟩⟩⟩⟩⟩) h
  · simp at h
end Go.AM
namespace Go.AM
open Go Go.Proofs
noncomputable def r12 (call : CallF) (fuel base : Nat) (x0 : Value) (m : M) : Res2 :=
  (k2 (xbox m x0) fun u1 m => (k1 (xload E.P m 23 u1) fun u2 => (kc (call base 47 [u2] m) (fun u3 m => (k1 (mun .not u3) fun u4 => (kb u4 (some (.ret (.tuple #[(.int .i64 0), (.int .i64 2)]), m)) (k1 (xload E.P m 23 u1) fun u5 => (kc (call base 48 [u5] m) (fun u6 m => (some (.ret (.tuple #[u6, (.int .i64 0)]), m))) (fun v m => some (.pan v, m))))))) (fun v m => some (.pan v, m)))))
def keep12 : Keep := { region := fun i => ([[1], [1, 6], [2, 3], [2, 3]] : List (List Nat))[i]?, exit := fun i => ([] : List (List Nat))[i]?, ret := some [2, 3] }
noncomputable def lp12 (call : CallF) (fuel base : Nat) : Lp := lpsel []
noncomputable def c12 : Code := Try.f12.body.getD .skip
theorem r12_eq (call : CallF) (fuel base : Nat) (x0 : Value) (m : M) : kbody E call keep12 (lp12 call fuel base) base Try.f12 [x0] m = r12 call fuel base x0 m := by
  kernel_rfl
noncomputable def rf12 : RF := fun call fuel base args m => match args with
  | [x0] => r12 call fuel base x0 m
  | _ => none
theorem rf12_ok : RFok E 12 rf12 := by
  show RFok' E 12 rf12
  refine ⟨Try.f12, (by kernel_rfl), fun call fuel base args m r _ h => ?_⟩
  unfold rf12 at h
  split at h
  · rw [← r12_eq] at h
    exact kbody_sound (c := c12) (by kernel_rfl) (Eq.mpr (show _ = (And True D5) by kernel_rfl) ⟨trivial, e5⟩) h
  · simp at h
end Go.AM
namespace Go.AM
open Go Go.Proofs
noncomputable def r14 (call : CallF) (fuel base : Nat) (x0 : Value) (m : M) : Res2 :=
  (k2 (xbox m x0) fun u1 m => (k1 (xload E.P m 23 u1) fun u2 => (kc (call base 47 [u2] m) (fun u3 m => (k1 (mun .not u3) fun u4 => (kb u4 (some (.ret (.tuple #[(.int .i64 0), (.int .i64 2)]), m)) (k1 (xload E.P m 23 u1) fun u5 => (kc (call base 49 [u5] m) (fun u6 m => (some (.ret (.tuple #[u6, (.int .i64 0)]), m))) (fun v m => some (.pan v, m))))))) (fun v m => some (.pan v, m)))))
def keep14 : Keep := { region := fun i => ([[1], [1, 6], [2, 3], [2, 3]] : List (List Nat))[i]?, exit := fun i => ([] : List (List Nat))[i]?, ret := some [2, 3] }
noncomputable def lp14 (call : CallF) (fuel base : Nat) : Lp := lpsel []
noncomputable def c14 : Code := Try.f14.body.getD .skip
theorem r14_eq (call : CallF) (fuel base : Nat) (x0 : Value) (m : M) : kbody E call keep14 (lp14 call fuel base) base Try.f14 [x0] m = r14 call fuel base x0 m := by
  kernel_rfl
noncomputable def rf14 : RF := fun call fuel base args m => match args with
  | [x0] => r14 call fuel base x0 m
  | _ => none
theorem rf14_ok : RFok E 14 rf14 := by
  show RFok' E 14 rf14
  refine ⟨Try.f14, (by kernel_rfl), fun call fuel base args m r _ h => ?_⟩
  unfold rf14 at h
  split at h
  · rw [← r14_eq] at h
    exact kbody_sound (c := c14) (by kernel_rfl) (Eq.mpr (show _ = (And True D5) by kernel_rfl) ⟨trivial, e5⟩) h
  · simp at h
end Go.AM
namespace Go.AM
open Go Go.Proofs
noncomputable def r19 (call : CallF) (fuel base : Nat) (m : M) : Res2 :=
  (k1 (mbuild E.P 23 [(0, (.int .i64 2)), (1, (.int .i64 2)), (2, (.int .i64 2))]) fun u1 => (k2 (xalloc E.P m 23) fun u2 m => (ks (xstore E.P base m 23 u2 u1) fun m => (k1 (xload E.P m 23 u2) fun u3 => (kc (call base 12 [u3] m) (fun u4 m => (k1 (mextract 0 u4) fun u5 => (k1 (mextract 1 u4) fun u6 => (k1 (xload E.P m 23 u2) fun u7 => (kc (call base 14 [u7] m) (fun u8 m => (k1 (mextract 0 u8) fun u9 => (k1 (mextract 1 u8) fun u10 => (k1 (xload E.P m 23 u2) fun u11 => (k2 (xbuildSlice E.P m 27 2 [(0, (.int .i64 2)), (1, (.int .i64 1))]) fun u12 m => (k2 (xbuildSlice E.P m 27 2 [(0, (.int .i64 1)), (1, (.int .i64 0))]) fun u13 m => (k2 (xbuildSlice E.P m 33 2 [(0, u12), (1, u13)]) fun u14 m => (kc (call base 24 [u11, u14] m) (fun u15 m => (k1 (mextract 0 u15) fun u16 => (k1 (mextract 1 u15) fun u17 => (k1 (mbin E .eql 24 u6 (.int .i64 0)) fun u18 => (kb u18 (k1 (mbin E .eql 3 u5 (.int .i64 20)) fun u19 => (kb u19 (k1 (mbin E .eql 24 u10 (.int .i64 0)) fun u20 => (kb u20 (k1 (mbin E .eql 3 u9 (.int .i64 20)) fun u21 => (kb u21 (k1 (mbin E .eql 24 u17 (.int .i64 0)) fun u22 => (kb u22 (k1 (mbin E .eql 3 u16 (.int .i64 10)) fun u23 => (fVal u23 fun v => some (.ret v, m))) (fVal (.bool false) fun v => some (.ret v, m)))) (fVal (.bool false) fun v => some (.ret v, m)))) (fVal (.bool false) fun v => some (.ret v, m)))) (fVal (.bool false) fun v => some (.ret v, m)))) (fVal (.bool false) fun v => some (.ret v, m))))))) (fun v m => some (.pan v, m)))))))))) (fun v m => some (.pan v, m))))))) (fun v m => some (.pan v, m)))))))
def keep19 : Keep := { region := fun i => ([[], [1], [1, 2, 3], [1, 2, 3, 4, 5], [2, 3, 4, 5, 6, 7], [0]] : List (List Nat))[i]?, exit := fun i => ([] : List (List Nat))[i]?, ret := some [0] }
noncomputable def lp19 (call : CallF) (fuel base : Nat) : Lp := lpsel []
noncomputable def c19 : Code := Try.f19.body.getD .skip
theorem r19_eq (call : CallF) (fuel base : Nat) (m : M) : kbody E call keep19 (lp19 call fuel base) base Try.f19 [] m = r19 call fuel base  m := by
  kernel_rfl
noncomputable def rf19 : RF := fun call fuel base args m => match args with
  | [] => r19 call fuel base  m
  | _ => none
theorem rf19_ok : RFok E 19 rf19 := by
  show RFok' E 19 rf19
  refine ⟨Try.f19, (by kernel_rfl), fun call fuel base args m r _ h => ?_⟩
  unfold rf19 at h
  split at h
  · rw [← r19_eq] at h
    exact kbody_sound (c := c19) (by kernel_rfl) (Eq.mpr (show _ = (And True B6) by kernel_rfl) ⟨trivial, q6⟩) h
  · simp at h
end Go.AM
namespace Go.AM
open Go Go.Proofs
noncomputable def r20_L0 (call : CallF) (fuel base : Nat) (kr : Value → M → Res2) (kx0 : M → Res2) (n : Nat) : Value → Value → M → Res2 :=
  Nat.rec (motive := fun _ => Value → Value → M → Res2) (fun _ _ _ => none)
    (fun _ ih x0 x3 m =>
      (k2 (vcall E.P base m .len [33] [x0]) fun u1 m => (k1 (mbin E .lss 3 x3 u1) fun u2 => (kb u2 (k1 (mbin E .geq 3 x3 (.int .i64 10)) fun u3 => (kb u3 (kr (.bool false) m) (k1 (mindexAddr E.P 33 x0 x3) fun u4 => (k1 (xload E.P m 27 u4) fun u5 => (k2 (vcall E.P base m .len [27] [u5]) fun u6 m => (k1 (mbin E .gtr 3 u6 (.int .i64 10)) fun u7 => (kb u7 (kr (.bool false) m) (k1 (mbin E .add 3 x3 (.int .i64 1)) fun u8 => (ih x0 u8 m))))))))) (kx0 m))))) n
noncomputable def r20 (call : CallF) (fuel base : Nat) (x0 : Value) (m : M) : Res2 :=
  (r20_L0 call fuel base (fun w9 m => (fVal w9 fun v => some (.ret v, m))) (fun m => (fVal (.bool true) fun v => some (.ret v, m))) fuel x0 (.int .i64 0) m)
def keep20 : Keep := { region := fun i => ([[0], [0, 3], [0, 3, 7], [0, 3], [0, 3, 19], [2], [2]] : List (List Nat))[i]?, exit := fun i => ([[], [0, 3]] : List (List Nat))[i]?, ret := some [2] }
noncomputable def r20_L0_R (call : CallF) (fuel base n : Nat) (vs : List Value) (m : M) (K : KT) : Res2 := match vs with
  | [x0, x3] => r20_L0 call fuel base (fun y2 m => K .ret { n := 20, l := [(2, y2)] } m) (fun m => K (.exit 0) { n := 20, l := [] } m) n x0 x3 m
  | _ => none
noncomputable def lp20 (call : CallF) (fuel base : Nat) : Lp := lpsel [(0, fun T m K => kslots 20 [0, 3] T fun vs => r20_L0_R call fuel base fuel vs m K)]
noncomputable def c20 : Code := Try.f20.body.getD .skip
noncomputable def p20_0 : Code := loopB (blockB (seqR (seqL (seqR c20))))
theorem r20_L0_ok (call : CallF) (fuel base : Nat) : LQ lp20 call fuel base 0 p20_0 := by
  refine loop_ok (kp := keep20) (hb := Eq.mpr (show _ = (And B3 (And D3 True)) by kernel_rfl) ⟨q3, ⟨e3, trivial⟩⟩) 20 [0, 3] (r20_L0_R call fuel base) ?_ ?_ (fun _ _ _ => rfl)
  · intro vs m K
    unfold r20_L0_R
    split <;> rfl
  · intro n vs m K hl
    match vs, hl with
    | [x0, x3], _ => show _ = _; kernel_rfl
theorem r20_eq (call : CallF) (fuel base : Nat) (x0 : Value) (m : M) : kbody E call keep20 (lp20 call fuel base) base Try.f20 [x0] m = r20 call fuel base x0 m := by
  kernel_rfl
noncomputable def rf20 : RF := fun call fuel base args m => match args with
  | [x0] => r20 call fuel base x0 m
  | _ => none
theorem rf20_ok : RFok E 20 rf20 := by
  show RFok' E 20 rf20
  refine ⟨Try.f20, (by kernel_rfl), fun call fuel base args m r _ h => ?_⟩
  unfold rf20 at h
  split at h
  · rw [← r20_eq] at h
    exact kbody_sound (c := c20) (by kernel_rfl) (Eq.mpr (show _ = (And True (And (And True (LQ lp20 call fuel base 0 p20_0)) B2)) by kernel_rfl) ⟨trivial, ⟨⟨trivial, (r20_L0_ok call fuel base)⟩, q2⟩⟩) h
  · simp at h
end Go.AM
namespace Go.AM
open Go Go.Proofs
noncomputable def r21_L0 (call : CallF) (fuel base : Nat) (kx0 : Value → M → Res2) (n : Nat) : Value → Value → Value → M → Res2 :=
  Nat.rec (motive := fun _ => Value → Value → Value → M → Res2) (fun _ _ _ _ => none)
    (fun _ ih x0 x3 x4 m =>
      (k2 (vcall E.P base m .len [33] [x0]) fun u1 m => (k1 (mbin E .lss 3 x4 u1) fun u2 => (kb u2 (k1 (mindexAddr E.P 33 x0 x4) fun u3 => (k1 (xload E.P m 27 u3) fun u4 => (k2 (vcall E.P base m .append [27, 27] [(.slice none 0 0), u4]) fun u5 m => (k2 (xbuildSlice E.P m 33 1 [(0, u5)]) fun u6 m => (k2 (vcall E.P base m .append [33, 33] [x3, u6]) fun u7 m => (k1 (mbin E .add 3 x4 (.int .i64 1)) fun u8 => (ih x0 u7 u8 m))))))) (kx0 x3 m))))) n
noncomputable def r21 (call : CallF) (fuel base : Nat) (x0 : Value) (m : M) : Res2 :=
  (r21_L0 call fuel base (fun w9 m => (fVal w9 fun v => some (.ret v, m))) fuel x0 (.slice none 0 0) (.int .i64 0) m)
def keep21 : Keep := { region := fun i => ([[0], [0, 3], [0, 3, 4], [0, 3, 4, 9], [0, 3, 4], [0, 3, 4, 5], [0, 3, 4], [2]] : List (List Nat))[i]?, exit := fun i => ([[3], [0, 3, 4]] : List (List Nat))[i]?, ret := some [2] }
noncomputable def r21_L0_R (call : CallF) (fuel base n : Nat) (vs : List Value) (m : M) (K : KT) : Res2 := match vs with
  | [x0, x3, x4] => r21_L0 call fuel base (fun y3 m => K (.exit 0) { n := 22, l := [(3, y3)] } m) n x0 x3 x4 m
  | _ => none
noncomputable def lp21 (call : CallF) (fuel base : Nat) : Lp := lpsel [(0, fun T m K => kslots 22 [0, 3, 4] T fun vs => r21_L0_R call fuel base fuel vs m K)]
noncomputable def c21 : Code := Try.f21.body.getD .skip
noncomputable def p21_0 : Code := loopB (blockB (seqR (seqL (seqR (seqR c21)))))
theorem r21_L0_ok (call : CallF) (fuel base : Nat) : LQ lp21 call fuel base 0 p21_0 := by
  refine loop_ok (kp := keep21) (hb := Eq.mpr (show _ = (And B3 D2) by kernel_rfl) ⟨q3, e2⟩) 22 [0, 3, 4] (r21_L0_R call fuel base) ?_ ?_ (fun _ _ _ => rfl)
  · intro vs m K
    unfold r21_L0_R
    split <;> rfl
  · intro n vs m K hl
    match vs, hl with
    | [x0, x3, x4], _ => show _ = _; kernel_rfl
theorem r21_eq (call : CallF) (fuel base : Nat) (x0 : Value) (m : M) : kbody E call keep21 (lp21 call fuel base) base Try.f21 [x0] m = r21 call fuel base x0 m := by
  kernel_rfl
noncomputable def rf21 : RF := fun call fuel base args m => match args with
  | [x0] => r21 call fuel base x0 m
  | _ => none
theorem rf21_ok : RFok E 21 rf21 := by
  show RFok' E 21 rf21
  refine ⟨Try.f21, (by kernel_rfl), fun call fuel base args m r _ h => ?_⟩
  unfold rf21 at h
  split at h
  · rw [← r21_eq] at h
    exact kbody_sound (c := c21) (by kernel_rfl) (Eq.mpr (show _ = (And True (And True (And (And True (LQ lp21 call fuel base 0 p21_0)) B2))) by kernel_rfl) ⟨trivial, ⟨trivial, ⟨⟨trivial, (r21_L0_ok call fuel base)⟩, q2⟩⟩⟩) h
  · simp at h
end Go.AM
namespace Go.AM
open Go Go.Proofs
noncomputable def r24 (call : CallF) (fuel base : Nat) (x0 : Value) (x1 : Value) (m : M) : Res2 :=
  (k2 (xbox m x0) fun u1 m => (k1 (xload E.P m 23 u1) fun u2 => (kc (call base 56 [u2, x1] m) (fun u3 m => (k1 (mextract 0 u3) fun u4 => (k1 (mextract 1 u3) fun u5 => (k2 (xalloc E.P m 79) fun u6 m => (ks (xstore E.P base m 79 u6 u4) fun m => (k1 (mbin E .neq 24 u5 (.int .i64 0)) fun u7 => (kb u7 (some (.ret (.tuple #[(.int .i64 0), u5]), m)) (k1 (xload E.P m 79 u6) fun u8 => (kc (call base 57 [u8] m) (fun u9 m => (some (.ret (.tuple #[u9, (.int .i64 0)]), m))) (fun v m => some (.pan v, m))))))))))) (fun v m => some (.pan v, m)))))
def keep24 : Keep := { region := fun i => ([[1, 2], [6, 7], [6, 7, 15], [4, 5], [4, 5]] : List (List Nat))[i]?, exit := fun i => ([] : List (List Nat))[i]?, ret := some [4, 5] }
noncomputable def lp24 (call : CallF) (fuel base : Nat) : Lp := lpsel []
noncomputable def c24 : Code := Try.f24.body.getD .skip
theorem r24_eq (call : CallF) (fuel base : Nat) (x0 : Value) (x1 : Value) (m : M) : kbody E call keep24 (lp24 call fuel base) base Try.f24 [x0, x1] m = r24 call fuel base x0 x1 m := by
  kernel_rfl
noncomputable def rf24 : RF := fun call fuel base args m => match args with
  | [x0, x1] => r24 call fuel base x0 x1 m
  | _ => none
theorem rf24_ok : RFok E 24 rf24 := by
  show RFok' E 24 rf24
  refine ⟨Try.f24, (by kernel_rfl), fun call fuel base args m r _ h => ?_⟩
  unfold rf24 at h
  split at h
  · rw [← r24_eq] at h
    exact kbody_sound (c := c24) (by kernel_rfl) (Eq.mpr (show _ = (And True (And True D5)) by kernel_rfl) ⟨trivial, ⟨trivial, e5⟩⟩) h
  · simp at h
end Go.AM
namespace Go.AM
open Go Go.Proofs
noncomputable def r26_L2 (call : CallF) (fuel base : Nat) (kr : Value → M → Res2) (kx2 : Value → Value → Value → M → Res2) (n : Nat) : Value → Value → Value → Value → M → Res2 :=
  Nat.rec (motive := fun _ => Value → Value → Value → Value → M → Res2) (fun _ _ _ _ _ => none)
    (fun _ ih x0 x1 x5 x6 m =>
      (k1 (mindexAddr E.P 33 x0 x5) fun u13 => (k1 (xload E.P m 27 u13) fun u14 => (k2 (vcall E.P base m .len [27] [u14]) fun u15 m => (k1 (mbin E .lss 3 x6 u15) fun u16 => (kb u16 (k1 (mindexAddr E.P 33 x0 x5) fun u17 => (k1 (xload E.P m 27 u17) fun u18 => (k1 (mindexAddr E.P 27 u18 x6) fun u19 => (k1 (xload E.P m 3 u19) fun u20 => (k1 (mindexAddr E.P 33 x1 x5) fun u21 => (k1 (xload E.P m 27 u21) fun u22 => (k1 (mindexAddr E.P 27 u22 x6) fun u23 => (k1 (xload E.P m 3 u23) fun u24 => (k1 (mbin E .neq 3 u20 u24) fun u25 => (kb u25 (kr (.bool false) m) (k1 (mbin E .add 3 x6 (.int .i64 1)) fun u26 => (ih x0 x1 x5 u26 m)))))))))))) (kx2 x0 x1 x5 m))))))) n
noncomputable def r26_L0 (call : CallF) (fuel base : Nat) (kr : Value → M → Res2) (kx0 : M → Res2) (n : Nat) : Value → Value → Value → M → Res2 :=
  Nat.rec (motive := fun _ => Value → Value → Value → M → Res2) (fun _ _ _ _ => none)
    (fun _ ih x0 x1 x5 m =>
      (k2 (vcall E.P base m .len [33] [x0]) fun u4 m => (k1 (mbin E .lss 3 x5 u4) fun u5 => (kb u5 (k1 (mindexAddr E.P 33 x0 x5) fun u6 => (k1 (xload E.P m 27 u6) fun u7 => (k2 (vcall E.P base m .len [27] [u7]) fun u8 m => (k1 (mindexAddr E.P 33 x1 x5) fun u9 => (k1 (xload E.P m 27 u9) fun u10 => (k2 (vcall E.P base m .len [27] [u10]) fun u11 m => (k1 (mbin E .neq 3 u8 u11) fun u12 => (kb u12 (kr (.bool false) m) (r26_L2 call fuel base (fun w27 m => (kr w27 m)) (fun w28 w29 w30 m => (k1 (mbin E .add 3 w30 (.int .i64 1)) fun u31 => (ih w28 w29 u31 m))) fuel x0 x1 x5 (.int .i64 0) m))))))))) (kx0 m))))) n
noncomputable def r26 (call : CallF) (fuel base : Nat) (x0 : Value) (x1 : Value) (m : M) : Res2 :=
  (k2 (vcall E.P base m .len [33] [x0]) fun u1 m => (k2 (vcall E.P base m .len [33] [x1]) fun u2 m => (k1 (mbin E .neq 3 u1 u2) fun u3 => (kb u3 (fVal (.bool false) fun v => some (.ret v, m)) (r26_L0 call fuel base (fun w32 m => (fVal w32 fun v => some (.ret v, m))) (fun m => (fVal (.bool true) fun v => some (.ret v, m))) fuel x0 x1 (.int .i64 0) m)))))
def keep26 : Keep := { region := fun i => ([[0, 1], [0, 1, 11], [4], [0, 1, 5], [0, 1, 5, 15], [0, 1, 5], [0, 1, 5, 28], [4], [0, 1, 5, 6], [0, 1, 5, 6, 35], [0, 1, 5, 6], [0, 1, 5, 6, 52], [4], [4]] : List (List Nat))[i]?, exit := fun i => ([[], [0, 1, 5], [0, 1, 5], [0, 1, 5, 6]] : List (List Nat))[i]?, ret := some [4] }
noncomputable def r26_L2_R (call : CallF) (fuel base n : Nat) (vs : List Value) (m : M) (K : KT) : Res2 := match vs with
  | [x0, x1, x5, x6] => r26_L2 call fuel base (fun y4 m => K .ret { n := 53, l := [(4, y4)] } m) (fun y0 y1 y5 m => K (.exit 2) { n := 53, l := [(0, y0), (1, y1), (5, y5)] } m) n x0 x1 x5 x6 m
  | _ => none
noncomputable def r26_L0_R (call : CallF) (fuel base n : Nat) (vs : List Value) (m : M) (K : KT) : Res2 := match vs with
  | [x0, x1, x5] => r26_L0 call fuel base (fun y4 m => K .ret { n := 53, l := [(4, y4)] } m) (fun m => K (.exit 0) { n := 53, l := [] } m) n x0 x1 x5 m
  | _ => none
noncomputable def lp26 (call : CallF) (fuel base : Nat) : Lp := lpsel [(2, fun T m K => kslots 53 [0, 1, 5, 6] T fun vs => r26_L2_R call fuel base fuel vs m K), (0, fun T m K => kslots 53 [0, 1, 5] T fun vs => r26_L0_R call fuel base fuel vs m K)]
noncomputable def c26 : Code := Try.f26.body.getD .skip
noncomputable def p26_0 : Code := loopB (blockB (seqR (seqL (seqR (seqR c26)))))
noncomputable def p26_2 : Code := loopB (blockB (seqR (seqR (blockB (seqL (seqR (loopB (blockB (seqR (seqL (seqR (seqR c26))))))))))))
theorem r26_L2_ok (call : CallF) (fuel base : Nat) : LQ lp26 call fuel base 2 p26_2 := by
  refine loop_ok (kp := keep26) (hb := Eq.mpr (show _ = (And B3 (And D3 True)) by kernel_rfl) ⟨q3, ⟨e3, trivial⟩⟩) 53 [0, 1, 5, 6] (r26_L2_R call fuel base) ?_ ?_ (fun _ _ _ => rfl)
  · intro vs m K
    unfold r26_L2_R
    split <;> rfl
  · intro n vs m K hl
    match vs, hl with
    | [x0, x1, x5, x6], _ => show _ = _; kernel_rfl
theorem r26_L0_ok (call : CallF) (fuel base : Nat) : LQ lp26 call fuel base 0 p26_0 := by
  refine loop_ok (kp := keep26) (hb := Eq.mpr (show _ = (And B3 (And (And D3 (And True (LQ lp26 call fuel base 2 p26_2))) True)) by kernel_rfl) ⟨q3, ⟨⟨e3, ⟨trivial, (r26_L2_ok call fuel base)⟩⟩, trivial⟩⟩) 53 [0, 1, 5] (r26_L0_R call fuel base) ?_ ?_ (fun _ _ _ => rfl)
  · intro vs m K
    unfold r26_L0_R
    split <;> rfl
  · intro n vs m K hl
    match vs, hl with
    | [x0, x1, x5], _ => show _ = _; kernel_rfl
theorem r26_eq (call : CallF) (fuel base : Nat) (x0 : Value) (x1 : Value) (m : M) : kbody E call keep26 (lp26 call fuel base) base Try.f26 [x0, x1] m = r26 call fuel base x0 x1 m := by
  kernel_rfl
noncomputable def rf26 : RF := fun call fuel base args m => match args with
  | [x0, x1] => r26 call fuel base x0 x1 m
  | _ => none
theorem rf26_ok : RFok E 26 rf26 := by
  show RFok' E 26 rf26
  refine ⟨Try.f26, (by kernel_rfl), fun call fuel base args m r _ h => ?_⟩
  unfold rf26 at h
  split at h
  · rw [← r26_eq] at h
    exact kbody_sound (c := c26) (by kernel_rfl) (Eq.mpr (show _ = (And True (And D3 (And (And True (LQ lp26 call fuel base 0 p26_0)) B2))) by kernel_rfl) ⟨trivial, ⟨e3, ⟨⟨trivial, (r26_L0_ok call fuel base)⟩, q2⟩⟩⟩) h
  · simp at h
end Go.AM
namespace Go.AM
open Go Go.Proofs
noncomputable def r29 (call : CallF) (fuel base : Nat) (x0 : Value) (x1 : Value) (m : M) : Res2 :=
  (k2 (xbox m x0) fun u1 m => (k1 (xload E.P m 23 u1) fun u2 => (kc (call base 61 [u2, x1, (.func (.func 62) #[] #[])] m) (fun u3 m => (k1 (mextract 0 u3) fun u4 => (k1 (mextract 1 u3) fun u5 => (some (.ret (.tuple #[u4, u5]), m))))) (fun v m => some (.pan v, m)))))
def keep29 : Keep := { region := fun i => ([[1, 2], [4, 5]] : List (List Nat))[i]?, exit := fun i => ([] : List (List Nat))[i]?, ret := some [4, 5] }
noncomputable def lp29 (call : CallF) (fuel base : Nat) : Lp := lpsel []
noncomputable def c29 : Code := Try.f29.body.getD .skip
theorem r29_eq (call : CallF) (fuel base : Nat) (x0 : Value) (x1 : Value) (m : M) : kbody E call keep29 (lp29 call fuel base) base Try.f29 [x0, x1] m = r29 call fuel base x0 x1 m := by
  kernel_rfl
noncomputable def rf29 : RF := fun call fuel base args m => match args with
  | [x0, x1] => r29 call fuel base x0 x1 m
  | _ => none
theorem rf29_ok : RFok E 29 rf29 := by
  show RFok' E 29 rf29
  refine ⟨Try.f29, (by kernel_rfl), fun call fuel base args m r _ h => ?_⟩
  unfold rf29 at h
  split at h
  · rw [← r29_eq] at h
    exact kbody_sound (c := c29) (by kernel_rfl) (Eq.mpr (show _ = B3 by kernel_rfl) q3) h
  · simp at h
end Go.AM
namespace Go.AM
open Go Go.Proofs
noncomputable def r30 (call : CallF) (fuel base : Nat) (x0 : Value) (x1 : Value) (m : M) : Res2 :=
  (k2 (xbox m x0) fun u1 m => (k1 (xload E.P m 23 u1) fun u2 => (kc (call base 61 [u2, x1, (.func (.func 63) #[] #[])] m) (fun u3 m => (k1 (mextract 0 u3) fun u4 => (k1 (mextract 1 u3) fun u5 => (some (.ret (.tuple #[u4, u5]), m))))) (fun v m => some (.pan v, m)))))
def keep30 : Keep := { region := fun i => ([[1, 2], [4, 5]] : List (List Nat))[i]?, exit := fun i => ([] : List (List Nat))[i]?, ret := some [4, 5] }
noncomputable def lp30 (call : CallF) (fuel base : Nat) : Lp := lpsel []
noncomputable def c30 : Code := Try.f30.body.getD .skip
theorem r30_eq (call : CallF) (fuel base : Nat) (x0 : Value) (x1 : Value) (m : M) : kbody E call keep30 (lp30 call fuel base) base Try.f30 [x0, x1] m = r30 call fuel base x0 x1 m := by
  kernel_rfl
noncomputable def rf30 : RF := fun call fuel base args m => match args with
  | [x0, x1] => r30 call fuel base x0 x1 m
  | _ => none
theorem rf30_ok : RFok E 30 rf30 := by
  show RFok' E 30 rf30
  refine ⟨Try.f30, (by kernel_rfl), fun call fuel base args m r _ h => ?_⟩
  unfold rf30 at h
  split at h
  · rw [← r30_eq] at h
    exact kbody_sound (c := c30) (by kernel_rfl) (Eq.mpr (show _ = B3 by kernel_rfl) q3) h
  · simp at h
end Go.AM
namespace Go.AM
open Go Go.Proofs
noncomputable def r31 (call : CallF) (fuel base : Nat) (x0 : Value) (x1 : Value) (m : M) : Res2 :=
  (k2 (xbox m x0) fun u1 m => (k1 (xload E.P m 23 u1) fun u2 => (kc (call base 61 [u2, x1, (.func (.func 64) #[] #[])] m) (fun u3 m => (k1 (mextract 0 u3) fun u4 => (k1 (mextract 1 u3) fun u5 => (some (.ret (.tuple #[u4, u5]), m))))) (fun v m => some (.pan v, m)))))
def keep31 : Keep := { region := fun i => ([[1, 2], [4, 5]] : List (List Nat))[i]?, exit := fun i => ([] : List (List Nat))[i]?, ret := some [4, 5] }
noncomputable def lp31 (call : CallF) (fuel base : Nat) : Lp := lpsel []
noncomputable def c31 : Code := Try.f31.body.getD .skip
theorem r31_eq (call : CallF) (fuel base : Nat) (x0 : Value) (x1 : Value) (m : M) : kbody E call keep31 (lp31 call fuel base) base Try.f31 [x0, x1] m = r31 call fuel base x0 x1 m := by
  kernel_rfl
noncomputable def rf31 : RF := fun call fuel base args m => match args with
  | [x0, x1] => r31 call fuel base x0 x1 m
  | _ => none
theorem rf31_ok : RFok E 31 rf31 := by
  show RFok' E 31 rf31
  refine ⟨Try.f31, (by kernel_rfl), fun call fuel base args m r _ h => ?_⟩
  unfold rf31 at h
  split at h
  · rw [← r31_eq] at h
    exact kbody_sound (c := c31) (by kernel_rfl) (Eq.mpr (show _ = B3 by kernel_rfl) q3) h
  · simp at h
end Go.AM
namespace Go.AM
open Go Go.Proofs
noncomputable def r32 (call : CallF) (fuel base : Nat) (x0 : Value) (x1 : Value) (m : M) : Res2 :=
  (k2 (xbox m x0) fun u1 m => (k1 (xload E.P m 23 u1) fun u2 => (kc (call base 56 [u2, x1] m) (fun u3 m => (k1 (mextract 0 u3) fun u4 => (k1 (mextract 1 u3) fun u5 => (k2 (xalloc E.P m 79) fun u6 m => (ks (xstore E.P base m 79 u6 u4) fun m => (k1 (mbin E .neq 24 u5 (.int .i64 0)) fun u7 => (kb u7 (some (.ret (.tuple #[(.slice none 0 0), (.slice none 0 0), u5]), m)) (k1 (xload E.P m 79 u6) fun u8 => (kc (call base 65 [u8] m) (fun u9 m => (k1 (mextract 0 u9) fun u10 => (k1 (mextract 1 u9) fun u11 => (some (.ret (.tuple #[u10, u11, (.int .i64 0)]), m))))) (fun v m => some (.pan v, m))))))))))) (fun v m => some (.pan v, m)))))
def keep32 : Keep := { region := fun i => ([[1, 2], [7, 8], [7, 8, 18], [4, 5, 6], [9, 10], [4, 5, 6]] : List (List Nat))[i]?, exit := fun i => ([] : List (List Nat))[i]?, ret := some [4, 5, 6] }
noncomputable def lp32 (call : CallF) (fuel base : Nat) : Lp := lpsel []
noncomputable def c32 : Code := Try.f32.body.getD .skip
theorem r32_eq (call : CallF) (fuel base : Nat) (x0 : Value) (x1 : Value) (m : M) : kbody E call keep32 (lp32 call fuel base) base Try.f32 [x0, x1] m = r32 call fuel base x0 x1 m := by
  kernel_rfl
noncomputable def rf32 : RF := fun call fuel base args m => match args with
  | [x0, x1] => r32 call fuel base x0 x1 m
  | _ => none
theorem rf32_ok : RFok E 32 rf32 := by
  show RFok' E 32 rf32
  refine ⟨Try.f32, (by kernel_rfl), fun call fuel base args m r _ h => ?_⟩
  unfold rf32 at h
  split at h
  · rw [← r32_eq] at h
    exact kbody_sound (c := c32) (by kernel_rfl) (Eq.mpr (show _ = (And True (And True (And D3 B3))) by kernel_rfl) ⟨trivial, ⟨trivial, ⟨e3, q3⟩⟩⟩) h
  · simp at h
end Go.AM
namespace Go.AM
open Go Go.Proofs
noncomputable def r33 (call : CallF) (fuel base : Nat) (x0 : Value) (x1 : Value) (m : M) : Res2 :=
  (k2 (xbox m x0) fun u1 m => (k1 (xload E.P m 23 u1) fun u2 => (kc (call base 56 [u2, x1] m) (fun u3 m => (k1 (mextract 0 u3) fun u4 => (k1 (mextract 1 u3) fun u5 => (k2 (xalloc E.P m 79) fun u6 m => (ks (xstore E.P base m 79 u6 u4) fun m => (k1 (mbin E .neq 24 u5 (.int .i64 0)) fun u7 => (kb u7 (some (.ret (.tuple #[(.slice none 0 0), u5]), m)) (k1 (xload E.P m 79 u6) fun u8 => (kc (call base 66 [u8] m) (fun u9 m => (some (.ret (.tuple #[u9, (.int .i64 0)]), m))) (fun v m => some (.pan v, m))))))))))) (fun v m => some (.pan v, m)))))
def keep33 : Keep := { region := fun i => ([[1, 2], [6, 7], [6, 7, 15], [4, 5], [4, 5]] : List (List Nat))[i]?, exit := fun i => ([] : List (List Nat))[i]?, ret := some [4, 5] }
noncomputable def lp33 (call : CallF) (fuel base : Nat) : Lp := lpsel []
noncomputable def c33 : Code := Try.f33.body.getD .skip
theorem r33_eq (call : CallF) (fuel base : Nat) (x0 : Value) (x1 : Value) (m : M) : kbody E call keep33 (lp33 call fuel base) base Try.f33 [x0, x1] m = r33 call fuel base x0 x1 m := by
  kernel_rfl
noncomputable def rf33 : RF := fun call fuel base args m => match args with
  | [x0, x1] => r33 call fuel base x0 x1 m
  | _ => none
theorem rf33_ok : RFok E 33 rf33 := by
  show RFok' E 33 rf33
  refine ⟨Try.f33, (by kernel_rfl), fun call fuel base args m r _ h => ?_⟩
  unfold rf33 at h
  split at h
  · rw [← r33_eq] at h
    exact kbody_sound (c := c33) (by kernel_rfl) (Eq.mpr (show _ = (And True (And True D5)) by kernel_rfl) ⟨trivial, ⟨trivial, e5⟩⟩) h
  · simp at h
end Go.AM
namespace Go.AM
open Go Go.Proofs
noncomputable def r34_L2 (call : CallF) (fuel base : Nat) (kp : Value → M → Res2) (kx2 : Value → Value → Value → Value → Value → M → Res2) (n : Nat) : Value → Value → Value → Value → Value → Value → M → Res2 :=
  Nat.rec (motive := fun _ => Value → Value → Value → Value → Value → Value → M → Res2) (fun _ _ _ _ _ _ _ => none)
    (fun _ ih x2 x7 x8 x9 x10 x11 m =>
      (k1 (mfieldAddr E.P 23 x2 1) fun u12 => (k1 (xload E.P m 3 u12) fun u13 => (k1 (mbin E .lss 3 x11 u13) fun u14 => (kb u14 (k1 (mindexAddr E.P 33 x9 x10) fun u15 => (k1 (xload E.P m 27 u15) fun u16 => (k1 (mindexAddr E.P 27 u16 x11) fun u17 => (k1 (xload E.P m 3 u17) fun u18 => (k1 (mbin E .add 3 u18 (.int .i64 1)) fun u19 => (k1 (mindexAddr E.P 27 u16 x11) fun u20 => (ks (xstore E.P base m 3 u20 u19) fun m => (k1 (xload E.P m 23 x2) fun u21 => (kc (call base 45 [u21, x9] m) (fun u22 m => (kb u22 (k1 (mbuild E.P 65 [(0, x11), (1, x10)]) fun u23 => (k2 (xbuildSlice E.P m 44 1 [(0, u23)]) fun u24 m => (k2 (vcall E.P base m .append [44, 44] [x7, u24]) fun u25 m => (k1 (mindexAddr E.P 33 x9 x10) fun u26 => (k1 (xload E.P m 27 u26) fun u27 => (k1 (mindexAddr E.P 27 u27 x11) fun u28 => (k1 (xload E.P m 3 u28) fun u29 => (k1 (mbin E .sub 3 u29 (.int .i64 2)) fun u30 => (k1 (mindexAddr E.P 27 u27 x11) fun u31 => (ks (xstore E.P base m 3 u31 u30) fun m => (k1 (xload E.P m 23 x2) fun u32 => (kc (call base 45 [u32, x9] m) (fun u33 m => (kb u33 (k1 (mbuild E.P 65 [(0, x11), (1, x10)]) fun u34 => (k2 (xbuildSlice E.P m 44 1 [(0, u34)]) fun u35 m => (k2 (vcall E.P base m .append [44, 44] [x8, u35]) fun u36 m => (k1 (mindexAddr E.P 33 x9 x10) fun u37 => (k1 (xload E.P m 27 u37) fun u38 => (k1 (mindexAddr E.P 27 u38 x11) fun u39 => (k1 (xload E.P m 3 u39) fun u40 => (k1 (mbin E .add 3 u40 (.int .i64 1)) fun u41 => (k1 (mindexAddr E.P 27 u38 x11) fun u42 => (ks (xstore E.P base m 3 u42 u41) fun m => (k1 (mbin E .add 3 x11 (.int .i64 1)) fun u43 => (ih x2 u25 u36 x9 x10 u43 m)))))))))))) (k1 (mindexAddr E.P 33 x9 x10) fun u44 => (k1 (xload E.P m 27 u44) fun u45 => (k1 (mindexAddr E.P 27 u45 x11) fun u46 => (k1 (xload E.P m 3 u46) fun u47 => (k1 (mbin E .add 3 u47 (.int .i64 1)) fun u48 => (k1 (mindexAddr E.P 27 u45 x11) fun u49 => (ks (xstore E.P base m 3 u49 u48) fun m => (k1 (mbin E .add 3 x11 (.int .i64 1)) fun u50 => (ih x2 u25 x8 x9 x10 u50 m))))))))))) (fun v m => kp v m))))))))))))) (k1 (mindexAddr E.P 33 x9 x10) fun u51 => (k1 (xload E.P m 27 u51) fun u52 => (k1 (mindexAddr E.P 27 u52 x11) fun u53 => (k1 (xload E.P m 3 u53) fun u54 => (k1 (mbin E .sub 3 u54 (.int .i64 2)) fun u55 => (k1 (mindexAddr E.P 27 u52 x11) fun u56 => (ks (xstore E.P base m 3 u56 u55) fun m => (k1 (xload E.P m 23 x2) fun u57 => (kc (call base 45 [u57, x9] m) (fun u58 m => (kb u58 (k1 (mbuild E.P 65 [(0, x11), (1, x10)]) fun u59 => (k2 (xbuildSlice E.P m 44 1 [(0, u59)]) fun u60 m => (k2 (vcall E.P base m .append [44, 44] [x8, u60]) fun u61 m => (k1 (mindexAddr E.P 33 x9 x10) fun u62 => (k1 (xload E.P m 27 u62) fun u63 => (k1 (mindexAddr E.P 27 u63 x11) fun u64 => (k1 (xload E.P m 3 u64) fun u65 => (k1 (mbin E .add 3 u65 (.int .i64 1)) fun u66 => (k1 (mindexAddr E.P 27 u63 x11) fun u67 => (ks (xstore E.P base m 3 u67 u66) fun m => (k1 (mbin E .add 3 x11 (.int .i64 1)) fun u68 => (ih x2 x7 u61 x9 x10 u68 m)))))))))))) (k1 (mindexAddr E.P 33 x9 x10) fun u69 => (k1 (xload E.P m 27 u69) fun u70 => (k1 (mindexAddr E.P 27 u70 x11) fun u71 => (k1 (xload E.P m 3 u71) fun u72 => (k1 (mbin E .add 3 u72 (.int .i64 1)) fun u73 => (k1 (mindexAddr E.P 27 u70 x11) fun u74 => (ks (xstore E.P base m 3 u74 u73) fun m => (k1 (mbin E .add 3 x11 (.int .i64 1)) fun u75 => (ih x2 x7 x8 x9 x10 u75 m))))))))))) (fun v m => kp v m)))))))))))) (fun v m => kp v m)))))))))) (kx2 x2 x7 x8 x9 x10 m)))))) n
noncomputable def r34_L0 (call : CallF) (fuel base : Nat) (kp : Value → M → Res2) (kx0 : Value → Value → M → Res2) (n : Nat) : Value → Value → Value → Value → Value → M → Res2 :=
  Nat.rec (motive := fun _ => Value → Value → Value → Value → Value → M → Res2) (fun _ _ _ _ _ _ => none)
    (fun _ ih x2 x7 x8 x9 x10 m =>
      (k1 (mfieldAddr E.P 23 x2 0) fun u9 => (k1 (xload E.P m 3 u9) fun u10 => (k1 (mbin E .lss 3 x10 u10) fun u11 => (kb u11 (r34_L2 call fuel base (fun v m => kp v m) (fun w76 w77 w78 w79 w80 m => (k1 (mbin E .add 3 w80 (.int .i64 1)) fun u81 => (ih w76 w77 w78 w79 u81 m))) fuel x2 x7 x8 x9 x10 (.int .i64 0) m) (kx0 x7 x8 m)))))) n
noncomputable def r34 (call : CallF) (fuel base : Nat) (x0 : Value) (x1 : Value) (m : M) : Res2 :=
  (k2 (xbox m x0) fun u1 m => (k1 (xload E.P m 23 u1) fun u2 => (kc (call base 50 [u2] m) (fun u3 m => (k1 (mun .not u3) fun u4 => (kb u4 (some (.ret (.tuple #[(.slice none 0 0), (.slice none 0 0), (.int .i64 2)]), m)) (k1 (xload E.P m 23 u1) fun u5 => (kc (call base 45 [u5, x1] m) (fun u6 m => (k1 (mun .not u6) fun u7 => (kb u7 (some (.ret (.tuple #[(.slice none 0 0), (.slice none 0 0), (.int .i64 2)]), m)) (kc (call base 21 [x1] m) (fun u8 m => (r34_L0 call fuel base (fun v m => some (.pan v, m)) (fun w82 w83 m => (some (.ret (.tuple #[w82, w83, (.int .i64 0)]), m))) fuel u1 (.slice none 0 0) (.slice none 0 0) u8 (.int .i64 0) m)) (fun v m => some (.pan v, m)))))) (fun v m => some (.pan v, m))))))) (fun v m => some (.pan v, m)))))
def keep34 : Keep := { region := fun i => ([[1, 2], [1, 2, 20], [4, 5, 6], [1, 2, 7, 8], [2, 7, 8, 9], [2, 7, 8, 9, 10], [2, 7, 8, 9, 10, 26], [2, 7, 8, 9, 10], [2, 7, 8, 9, 10, 11], [2, 7, 8, 9, 10, 11, 32], [2, 7, 8, 9, 10, 11], [2, 7, 8, 9, 10, 11], [2, 7, 8, 9, 10, 11, 46], [2, 7, 8, 9, 10, 11], [2, 7, 8, 9, 10, 11], [2, 7, 8, 9, 10, 11, 64], [2, 7, 8, 9, 10, 11], [2, 7, 8, 9, 10, 11], [4, 5, 6]] : List (List Nat))[i]?, exit := fun i => ([[7, 8], [2, 7, 8, 9, 10], [2, 7, 8, 9, 10], [2, 7, 8, 9, 10, 11]] : List (List Nat))[i]?, ret := some [4, 5, 6] }
noncomputable def r34_L2_R (call : CallF) (fuel base n : Nat) (vs : List Value) (m : M) (K : KT) : Res2 := match vs with
  | [x2, x7, x8, x9, x10, x11] => r34_L2 call fuel base (fun v m => K (.pan v) { n := 82, l := [] } m) (fun y2 y7 y8 y9 y10 m => K (.exit 2) { n := 82, l := [(2, y2), (7, y7), (8, y8), (9, y9), (10, y10)] } m) n x2 x7 x8 x9 x10 x11 m
  | _ => none
noncomputable def r34_L0_R (call : CallF) (fuel base n : Nat) (vs : List Value) (m : M) (K : KT) : Res2 := match vs with
  | [x2, x7, x8, x9, x10] => r34_L0 call fuel base (fun v m => K (.pan v) { n := 82, l := [] } m) (fun y7 y8 m => K (.exit 0) { n := 82, l := [(7, y7), (8, y8)] } m) n x2 x7 x8 x9 x10 m
  | _ => none
noncomputable def lp34 (call : CallF) (fuel base : Nat) : Lp := lpsel [(2, fun T m K => kslots 82 [2, 7, 8, 9, 10, 11] T fun vs => r34_L2_R call fuel base fuel vs m K), (0, fun T m K => kslots 82 [2, 7, 8, 9, 10] T fun vs => r34_L0_R call fuel base fuel vs m K)]
noncomputable def c34 : Code := Try.f34.body.getD .skip
noncomputable def p34_0 : Code := loopB (blockB (seqR (seqL (seqR (seqR (seqR (seqR c34)))))))
noncomputable def p34_2 : Code := loopB (blockB (seqR (blockB (seqL (seqR (loopB (blockB (seqR (seqL (seqR (seqR (seqR (seqR c34)))))))))))))
theorem r34_L2_ok (call : CallF) (fuel base : Nat) : LQ lp34 call fuel base 2 p34_2 := by
  refine loop_ok (kp := keep34) (hb := Eq.mpr (show _ = (And B3 (And (And True (And B3 (And True (And B3 True)))) True)) by kernel_rfl) ⟨q3, ⟨⟨trivial, ⟨q3, ⟨trivial, ⟨q3, trivial⟩⟩⟩⟩, trivial⟩⟩) 82 [2, 7, 8, 9, 10, 11] (r34_L2_R call fuel base) ?_ ?_ (fun _ _ _ => rfl)
  · intro vs m K
    unfold r34_L2_R
    split <;> rfl
  · intro n vs m K hl
    match vs, hl with
    | [x2, x7, x8, x9, x10, x11], _ => show _ = _; kernel_rfl
theorem r34_L0_ok (call : CallF) (fuel base : Nat) : LQ lp34 call fuel base 0 p34_0 := by
  refine loop_ok (kp := keep34) (hb := Eq.mpr (show _ = (And B3 (And (And True (LQ lp34 call fuel base 2 p34_2)) True)) by kernel_rfl) ⟨q3, ⟨⟨trivial, (r34_L2_ok call fuel base)⟩, trivial⟩⟩) 82 [2, 7, 8, 9, 10] (r34_L0_R call fuel base) ?_ ?_ (fun _ _ _ => rfl)
  · intro vs m K
    unfold r34_L0_R
    split <;> rfl
  · intro n vs m K hl
    match vs, hl with
    | [x2, x7, x8, x9, x10], _ => show _ = _; kernel_rfl
theorem r34_eq (call : CallF) (fuel base : Nat) (x0 : Value) (x1 : Value) (m : M) : kbody E call keep34 (lp34 call fuel base) base Try.f34 [x0, x1] m = r34 call fuel base x0 x1 m := by
  kernel_rfl
noncomputable def rf34 : RF := fun call fuel base args m => match args with
  | [x0, x1] => r34 call fuel base x0 x1 m
  | _ => none
theorem rf34_ok : RFok E 34 rf34 := by
  show RFok' E 34 rf34
  refine ⟨Try.f34, (by kernel_rfl), fun call fuel base args m r _ h => ?_⟩
  unfold rf34 at h
  split at h
  · rw [← r34_eq] at h
    exact kbody_sound (c := c34) (by kernel_rfl) (Eq.mpr (show _ = (And True (And D3 (And True (And True (And (And True (LQ lp34 call fuel base 0 p34_0)) B2))))) by kernel_rfl) ⟨trivial, ⟨e3, ⟨trivial, ⟨trivial, ⟨⟨trivial, (r34_L0_ok call fuel base)⟩, q2⟩⟩⟩⟩⟩) h
  · simp at h
end Go.AM
namespace Go.AM
open Go Go.Proofs
noncomputable def r35_L2 (call : CallF) (fuel base : Nat) (kx2 : Value → Value → Value → Value → M → Res2) (n : Nat) : Value → Value → Value → Value → Value → M → Res2 :=
  Nat.rec (motive := fun _ => Value → Value → Value → Value → Value → M → Res2) (fun _ _ _ _ _ _ => none)
    (fun _ ih x1 x2 x6 x7 x8 m =>
      (k1 (mfieldAddr E.P 23 x2 1) fun u11 => (k1 (xload E.P m 3 u11) fun u12 => (k1 (mbin E .lss 3 x8 u12) fun u13 => (kb u13 (k1 (mbin E .sub 3 x8 x7) fun u14 => (k1 (mindexAddr E.P 33 x1 x7) fun u15 => (k1 (xload E.P m 27 u15) fun u16 => (k1 (mindexAddr E.P 27 u16 x8) fun u17 => (k1 (xload E.P m 3 u17) fun u18 => (k1 (mbin E .sub 3 u18 x7) fun u19 => (k1 (mbuild E.P 69 [(0, (.int .i64 0)), (1, u14), (2, u19)]) fun u20 => (k2 (xbuildSlice E.P m 47 1 [(0, u20)]) fun u21 m => (k2 (vcall E.P base m .append [47, 47] [x6, u21]) fun u22 m => (k1 (mbin E .add 3 x8 (.int .i64 1)) fun u23 => (ih x1 x2 u22 x7 u23 m))))))))))) (kx2 x1 x2 x6 x7 m)))))) n
noncomputable def r35_L4 (call : CallF) (fuel base : Nat) (kp : Value → M → Res2) (kx4 : Value → Value → Value → Value → M → Res2) (n : Nat) : Value → Value → Value → Value → Value → M → Res2 :=
  Nat.rec (motive := fun _ => Value → Value → Value → Value → Value → M → Res2) (fun _ _ _ _ _ _ => none)
    (fun _ ih x1 x2 x6 x7 x9 m =>
      (k1 (mfieldAddr E.P 23 x2 2) fun u28 => (k1 (xload E.P m 3 u28) fun u29 => (k1 (mbin E .lss 3 x9 u29) fun u30 => (kb u30 (k1 (mindexAddr E.P 33 x1 x7) fun u31 => (k1 (xload E.P m 27 u31) fun u32 => (kc (call base 67 [u32, x9] m) (fun u33 m => (k1 (mbin E .sub 3 u33 x7) fun u34 => (k1 (mbin E .sub 3 x9 x7) fun u35 => (k1 (mbuild E.P 69 [(0, (.int .i64 1)), (1, u34), (2, u35)]) fun u36 => (k2 (xbuildSlice E.P m 47 1 [(0, u36)]) fun u37 m => (k2 (vcall E.P base m .append [47, 47] [x6, u37]) fun u38 m => (k1 (mbin E .add 3 x9 (.int .i64 1)) fun u39 => (ih x1 x2 u38 x7 u39 m)))))))) (fun v m => kp v m)))) (kx4 x1 x2 x6 x7 m)))))) n
noncomputable def r35_L8 (call : CallF) (fuel base : Nat) (kp : Value → M → Res2) (kx8 : Value → Value → Value → Value → M → Res2) (n : Nat) : Value → Value → Value → Value → Value → M → Res2 :=
  Nat.rec (motive := fun _ => Value → Value → Value → Value → Value → M → Res2) (fun _ _ _ _ _ _ => none)
    (fun _ ih x2 x6 x11 x12 x13 m =>
      (k1 (mfieldAddr E.P 23 x2 2) fun u53 => (k1 (xload E.P m 3 u53) fun u54 => (k1 (mbin E .lss 3 x13 u54) fun u55 => (kb u55 (k1 (mindexAddr E.P 33 x11 x12) fun u56 => (k1 (xload E.P m 27 u56) fun u57 => (kc (call base 67 [u57, x13] m) (fun u58 m => (k1 (mbin E .sub 3 x12 u58) fun u59 => (k1 (mbin E .sub 3 x13 u58) fun u60 => (k1 (mbuild E.P 69 [(0, (.int .i64 2)), (1, u59), (2, u60)]) fun u61 => (k2 (xbuildSlice E.P m 47 1 [(0, u61)]) fun u62 m => (k2 (vcall E.P base m .append [47, 47] [x6, u62]) fun u63 m => (k1 (mbin E .add 3 x13 (.int .i64 1)) fun u64 => (ih x2 u63 x11 x12 u64 m)))))))) (fun v m => kp v m)))) (kx8 x2 x6 x11 x12 m)))))) n
noncomputable def r35_L0 (call : CallF) (fuel base : Nat) (kp : Value → M → Res2) (kx0 : Value → Value → Value → M → Res2) (n : Nat) : Value → Value → Value → Value → M → Res2 :=
  Nat.rec (motive := fun _ => Value → Value → Value → Value → M → Res2) (fun _ _ _ _ _ => none)
    (fun _ ih x1 x2 x6 x7 m =>
      (k1 (mfieldAddr E.P 23 x2 0) fun u8 => (k1 (xload E.P m 3 u8) fun u9 => (k1 (mbin E .lss 3 x7 u9) fun u10 => (kb u10 (r35_L2 call fuel base (fun w24 w25 w26 w27 m => (r35_L4 call fuel base (fun v m => kp v m) (fun w40 w41 w42 w43 m => (k1 (mbin E .add 3 w43 (.int .i64 1)) fun u44 => (ih w40 w41 w42 u44 m))) fuel w24 w25 w26 w27 (.int .i64 0) m)) fuel x1 x2 x6 x7 (.int .i64 0) m) (kx0 x1 x2 x6 m)))))) n
noncomputable def r35_L6 (call : CallF) (fuel base : Nat) (kp : Value → M → Res2) (kx6 : Value → M → Res2) (n : Nat) : Value → Value → Value → Value → M → Res2 :=
  Nat.rec (motive := fun _ => Value → Value → Value → Value → M → Res2) (fun _ _ _ _ _ => none)
    (fun _ ih x2 x6 x11 x12 m =>
      (k1 (mfieldAddr E.P 23 x2 1) fun u50 => (k1 (xload E.P m 3 u50) fun u51 => (k1 (mbin E .lss 3 x12 u51) fun u52 => (kb u52 (r35_L8 call fuel base (fun v m => kp v m) (fun w65 w66 w67 w68 m => (k1 (mbin E .add 3 w68 (.int .i64 1)) fun u69 => (ih w65 w66 w67 u69 m))) fuel x2 x6 x11 x12 (.int .i64 0) m) (kx6 x6 m)))))) n
noncomputable def r35 (call : CallF) (fuel base : Nat) (x0 : Value) (x1 : Value) (m : M) : Res2 :=
  (k2 (xbox m x0) fun u1 m => (k1 (xload E.P m 23 u1) fun u2 => (kc (call base 50 [u2] m) (fun u3 m => (k1 (mun .not u3) fun u4 => (kb u4 (some (.ret (.tuple #[(.slice none 0 0), (.int .i64 2)]), m)) (k1 (xload E.P m 23 u1) fun u5 => (kc (call base 45 [u5, x1] m) (fun u6 m => (k1 (mun .not u6) fun u7 => (kb u7 (some (.ret (.tuple #[(.slice none 0 0), (.int .i64 2)]), m)) (r35_L0 call fuel base (fun v m => some (.pan v, m)) (fun w45 w46 w47 m => (k1 (xload E.P m 23 w46) fun u48 => (kc (call base 68 [u48, w45] m) (fun u49 m => (r35_L6 call fuel base (fun v m => some (.pan v, m)) (fun w70 m => (kc (call base 69 [w70] m) (fun u71 m => (some (.ret (.tuple #[u71, (.int .i64 0)]), m))) (fun v m => some (.pan v, m)))) fuel w46 w47 u49 (.int .i64 0) m)) (fun v m => some (.pan v, m))))) fuel x1 u1 (.slice none 0 0) (.int .i64 0) m)))) (fun v m => some (.pan v, m))))))) (fun v m => some (.pan v, m)))))
def keep35 : Keep := { region := fun i => ([[1, 2], [1, 2, 23], [4, 5], [1, 2, 6], [1, 2, 6, 7], [1, 2, 6, 7, 27], [1, 2, 6, 7], [1, 2, 6, 7, 8], [1, 2, 6, 7, 8, 33], [1, 2, 6, 7, 8], [1, 2, 6, 7, 8], [1, 2, 6, 7, 9], [1, 2, 6, 7, 9, 55], [1, 2, 6, 7, 9], [1, 2, 6, 7, 9, 10], [1, 2, 6, 7, 9], [2, 6, 11], [2, 6, 11, 12], [2, 6, 11, 12, 80], [2, 6, 11, 12], [2, 6, 11, 12, 13], [2, 6, 11, 12, 13, 86], [2, 6, 11, 12, 13], [2, 6, 11, 12, 13, 14], [2, 6, 11, 12, 13], [4, 5]] : List (List Nat))[i]?, exit := fun i => ([[1, 2, 6], [1, 2, 6, 7], [1, 2, 6, 7], [1, 2, 6, 7, 8], [1, 2, 6, 7], [1, 2, 6, 7, 9], [6], [2, 6, 11, 12], [2, 6, 11, 12], [2, 6, 11, 12, 13]] : List (List Nat))[i]?, ret := some [4, 5] }
noncomputable def r35_L2_R (call : CallF) (fuel base n : Nat) (vs : List Value) (m : M) (K : KT) : Res2 := match vs with
  | [x1, x2, x6, x7, x8] => r35_L2 call fuel base (fun y1 y2 y6 y7 m => K (.exit 2) { n := 107, l := [(1, y1), (2, y2), (6, y6), (7, y7)] } m) n x1 x2 x6 x7 x8 m
  | _ => none
noncomputable def r35_L4_R (call : CallF) (fuel base n : Nat) (vs : List Value) (m : M) (K : KT) : Res2 := match vs with
  | [x1, x2, x6, x7, x9] => r35_L4 call fuel base (fun v m => K (.pan v) { n := 107, l := [] } m) (fun y1 y2 y6 y7 m => K (.exit 4) { n := 107, l := [(1, y1), (2, y2), (6, y6), (7, y7)] } m) n x1 x2 x6 x7 x9 m
  | _ => none
noncomputable def r35_L8_R (call : CallF) (fuel base n : Nat) (vs : List Value) (m : M) (K : KT) : Res2 := match vs with
  | [x2, x6, x11, x12, x13] => r35_L8 call fuel base (fun v m => K (.pan v) { n := 107, l := [] } m) (fun y2 y6 y11 y12 m => K (.exit 8) { n := 107, l := [(2, y2), (6, y6), (11, y11), (12, y12)] } m) n x2 x6 x11 x12 x13 m
  | _ => none
noncomputable def r35_L0_R (call : CallF) (fuel base n : Nat) (vs : List Value) (m : M) (K : KT) : Res2 := match vs with
  | [x1, x2, x6, x7] => r35_L0 call fuel base (fun v m => K (.pan v) { n := 107, l := [] } m) (fun y1 y2 y6 m => K (.exit 0) { n := 107, l := [(1, y1), (2, y2), (6, y6)] } m) n x1 x2 x6 x7 m
  | _ => none
noncomputable def r35_L6_R (call : CallF) (fuel base n : Nat) (vs : List Value) (m : M) (K : KT) : Res2 := match vs with
  | [x2, x6, x11, x12] => r35_L6 call fuel base (fun v m => K (.pan v) { n := 107, l := [] } m) (fun y6 m => K (.exit 6) { n := 107, l := [(6, y6)] } m) n x2 x6 x11 x12 m
  | _ => none
noncomputable def lp35 (call : CallF) (fuel base : Nat) : Lp := lpsel [(2, fun T m K => kslots 107 [1, 2, 6, 7, 8] T fun vs => r35_L2_R call fuel base fuel vs m K), (4, fun T m K => kslots 107 [1, 2, 6, 7, 9] T fun vs => r35_L4_R call fuel base fuel vs m K), (8, fun T m K => kslots 107 [2, 6, 11, 12, 13] T fun vs => r35_L8_R call fuel base fuel vs m K), (0, fun T m K => kslots 107 [1, 2, 6, 7] T fun vs => r35_L0_R call fuel base fuel vs m K), (6, fun T m K => kslots 107 [2, 6, 11, 12] T fun vs => r35_L6_R call fuel base fuel vs m K)]
noncomputable def c35 : Code := Try.f35.body.getD .skip
noncomputable def p35_0 : Code := loopB (blockB (seqR (seqL (seqR (seqR (seqR c35))))))
noncomputable def p35_2 : Code := loopB (blockB (seqR (seqL (blockB (seqL (seqR (loopB (blockB (seqR (seqL (seqR (seqR (seqR c35)))))))))))))
noncomputable def p35_4 : Code := loopB (blockB (seqR (seqR (blockB (seqL (seqR (loopB (blockB (seqR (seqL (seqR (seqR (seqR c35)))))))))))))
noncomputable def p35_6 : Code := loopB (blockB (seqR (seqL (seqR (seqR (seqR (seqR (seqR c35))))))))
noncomputable def p35_8 : Code := loopB (blockB (seqR (blockB (seqL (seqR (loopB (blockB (seqR (seqL (seqR (seqR (seqR (seqR (seqR c35))))))))))))))
theorem r35_L2_ok (call : CallF) (fuel base : Nat) : LQ lp35 call fuel base 2 p35_2 := by
  refine loop_ok (kp := keep35) (hb := Eq.mpr (show _ = (And B3 B2) by kernel_rfl) ⟨q3, q2⟩) 107 [1, 2, 6, 7, 8] (r35_L2_R call fuel base) ?_ ?_ (fun _ _ _ => rfl)
  · intro vs m K
    unfold r35_L2_R
    split <;> rfl
  · intro n vs m K hl
    match vs, hl with
    | [x1, x2, x6, x7, x8], _ => show _ = _; kernel_rfl
theorem r35_L4_ok (call : CallF) (fuel base : Nat) : LQ lp35 call fuel base 4 p35_4 := by
  refine loop_ok (kp := keep35) (hb := Eq.mpr (show _ = (And B3 D2) by kernel_rfl) ⟨q3, e2⟩) 107 [1, 2, 6, 7, 9] (r35_L4_R call fuel base) ?_ ?_ (fun _ _ _ => rfl)
  · intro vs m K
    unfold r35_L4_R
    split <;> rfl
  · intro n vs m K hl
    match vs, hl with
    | [x1, x2, x6, x7, x9], _ => show _ = _; kernel_rfl
theorem r35_L8_ok (call : CallF) (fuel base : Nat) : LQ lp35 call fuel base 8 p35_8 := by
  refine loop_ok (kp := keep35) (hb := Eq.mpr (show _ = (And B3 D2) by kernel_rfl) ⟨q3, e2⟩) 107 [2, 6, 11, 12, 13] (r35_L8_R call fuel base) ?_ ?_ (fun _ _ _ => rfl)
  · intro vs m K
    unfold r35_L8_R
    split <;> rfl
  · intro n vs m K hl
    match vs, hl with
    | [x2, x6, x11, x12, x13], _ => show _ = _; kernel_rfl
theorem r35_L0_ok (call : CallF) (fuel base : Nat) : LQ lp35 call fuel base 0 p35_0 := by
  refine loop_ok (kp := keep35) (hb := Eq.mpr (show _ = (And B3 (And (And (And True (LQ lp35 call fuel base 2 p35_2)) (And True (LQ lp35 call fuel base 4 p35_4))) True)) by kernel_rfl) ⟨q3, ⟨⟨⟨trivial, (r35_L2_ok call fuel base)⟩, ⟨trivial, (r35_L4_ok call fuel base)⟩⟩, trivial⟩⟩) 107 [1, 2, 6, 7] (r35_L0_R call fuel base) ?_ ?_ (fun _ _ _ => rfl)
  · intro vs m K
    unfold r35_L0_R
    split <;> rfl
  · intro n vs m K hl
    match vs, hl with
    | [x1, x2, x6, x7], _ => show _ = _; kernel_rfl
theorem r35_L6_ok (call : CallF) (fuel base : Nat) : LQ lp35 call fuel base 6 p35_6 := by
  refine loop_ok (kp := keep35) (hb := Eq.mpr (show _ = (And B3 (And (And True (LQ lp35 call fuel base 8 p35_8)) True)) by kernel_rfl) ⟨q3, ⟨⟨trivial, (r35_L8_ok call fuel base)⟩, trivial⟩⟩) 107 [2, 6, 11, 12] (r35_L6_R call fuel base) ?_ ?_ (fun _ _ _ => rfl)
  · intro vs m K
    unfold r35_L6_R
    split <;> rfl
  · intro n vs m K hl
    match vs, hl with
    | [x2, x6, x11, x12], _ => show _ = _; kernel_rfl
theorem r35_eq (call : CallF) (fuel base : Nat) (x0 : Value) (x1 : Value) (m : M) : kbody E call keep35 (lp35 call fuel base) base Try.f35 [x0, x1] m = r35 call fuel base x0 x1 m := by
  kernel_rfl
noncomputable def rf35 : RF := fun call fuel base args m => match args with
  | [x0, x1] => r35 call fuel base x0 x1 m
  | _ => none
theorem rf35_ok : RFok E 35 rf35 := by
  show RFok' E 35 rf35
  refine ⟨Try.f35, (by kernel_rfl), fun call fuel base args m r _ h => ?_⟩
  unfold rf35 at h
  split at h
  · rw [← r35_eq] at h
    exact kbody_sound (c := c35) (by kernel_rfl) (Eq.mpr (show _ = (And True (And D3 (And True (And (And True (LQ lp35 call fuel base 0 p35_0)) (And True (And (And True (LQ lp35 call fuel base 6 p35_6)) B2)))))) by kernel_rfl) ⟨trivial, ⟨e3, ⟨trivial, ⟨⟨trivial, (r35_L0_ok call fuel base)⟩, ⟨trivial, ⟨⟨trivial, (r35_L6_ok call fuel base)⟩, q2⟩⟩⟩⟩⟩⟩) h
  · simp at h
end Go.AM
namespace Go.AM
open Go Go.Proofs
noncomputable def r36_L0 (call : CallF) (fuel base : Nat) (kr : Value → M → Res2) (kx0 : M → Res2) (n : Nat) : Value → Value → Value → M → Res2 :=
  Nat.rec (motive := fun _ => Value → Value → Value → M → Res2) (fun _ _ _ _ => none)
    (fun _ ih x0 x1 x5 m =>
      (k2 (vcall E.P base m .len [44] [x0]) fun u4 m => (k1 (mbin E .lss 3 x5 u4) fun u5 => (kb u5 (k1 (mindexAddr E.P 44 x0 x5) fun u6 => (k1 (xload E.P m 65 u6) fun u7 => (k1 (mindexAddr E.P 44 x1 x5) fun u8 => (k1 (xload E.P m 65 u8) fun u9 => (k1 (mbin E .neq 65 u7 u9) fun u10 => (kb u10 (kr (.bool false) m) (k1 (mbin E .add 3 x5 (.int .i64 1)) fun u11 => (ih x0 x1 u11 m)))))))) (kx0 m))))) n
noncomputable def r36 (call : CallF) (fuel base : Nat) (x0 : Value) (x1 : Value) (m : M) : Res2 :=
  (k2 (vcall E.P base m .len [44] [x0]) fun u1 m => (k2 (vcall E.P base m .len [44] [x1]) fun u2 m => (k1 (mbin E .neq 3 u1 u2) fun u3 => (kb u3 (fVal (.bool false) fun v => some (.ret v, m)) (r36_L0 call fuel base (fun w12 m => (fVal w12 fun v => some (.ret v, m))) (fun m => (fVal (.bool true) fun v => some (.ret v, m))) fuel x0 x1 (.int .i64 0) m)))))
def keep36 : Keep := { region := fun i => ([[0, 1], [0, 1, 10], [4], [0, 1, 5], [0, 1, 5, 14], [0, 1, 5], [0, 1, 5, 25], [4], [4]] : List (List Nat))[i]?, exit := fun i => ([[], [0, 1, 5]] : List (List Nat))[i]?, ret := some [4] }
noncomputable def r36_L0_R (call : CallF) (fuel base n : Nat) (vs : List Value) (m : M) (K : KT) : Res2 := match vs with
  | [x0, x1, x5] => r36_L0 call fuel base (fun y4 m => K .ret { n := 26, l := [(4, y4)] } m) (fun m => K (.exit 0) { n := 26, l := [] } m) n x0 x1 x5 m
  | _ => none
noncomputable def lp36 (call : CallF) (fuel base : Nat) : Lp := lpsel [(0, fun T m K => kslots 26 [0, 1, 5] T fun vs => r36_L0_R call fuel base fuel vs m K)]
noncomputable def c36 : Code := Try.f36.body.getD .skip
noncomputable def p36_0 : Code := loopB (blockB (seqR (seqL (seqR (seqR c36)))))
theorem r36_L0_ok (call : CallF) (fuel base : Nat) : LQ lp36 call fuel base 0 p36_0 := by
  refine loop_ok (kp := keep36) (hb := Eq.mpr (show _ = (And B3 (And D3 True)) by kernel_rfl) ⟨q3, ⟨e3, trivial⟩⟩) 26 [0, 1, 5] (r36_L0_R call fuel base) ?_ ?_ (fun _ _ _ => rfl)
  · intro vs m K
    unfold r36_L0_R
    split <;> rfl
  · intro n vs m K hl
    match vs, hl with
    | [x0, x1, x5], _ => show _ = _; kernel_rfl
theorem r36_eq (call : CallF) (fuel base : Nat) (x0 : Value) (x1 : Value) (m : M) : kbody E call keep36 (lp36 call fuel base) base Try.f36 [x0, x1] m = r36 call fuel base x0 x1 m := by
  kernel_rfl
noncomputable def rf36 : RF := fun call fuel base args m => match args with
  | [x0, x1] => r36 call fuel base x0 x1 m
  | _ => none
theorem rf36_ok : RFok E 36 rf36 := by
  show RFok' E 36 rf36
  refine ⟨Try.f36, (by kernel_rfl), fun call fuel base args m r _ h => ?_⟩
  unfold rf36 at h
  split at h
  · rw [← r36_eq] at h
    exact kbody_sound (c := c36) (by kernel_rfl) (Eq.mpr (show _ = (And True (And D3 (And (And True (LQ lp36 call fuel base 0 p36_0)) B2))) by kernel_rfl) ⟨trivial, ⟨e3, ⟨⟨trivial, (r36_L0_ok call fuel base)⟩, q2⟩⟩⟩) h
  · simp at h
end Go.AM
namespace Go.AM
open Go Go.Proofs
noncomputable def r37_L0 (call : CallF) (fuel base : Nat) (kr : Value → M → Res2) (kx0 : M → Res2) (n : Nat) : Value → Value → Value → M → Res2 :=
  Nat.rec (motive := fun _ => Value → Value → Value → M → Res2) (fun _ _ _ _ => none)
    (fun _ ih x0 x1 x5 m =>
      (k2 (vcall E.P base m .len [47] [x0]) fun u4 m => (k1 (mbin E .lss 3 x5 u4) fun u5 => (kb u5 (k1 (mindexAddr E.P 47 x0 x5) fun u6 => (k1 (xload E.P m 69 u6) fun u7 => (k1 (mindexAddr E.P 47 x1 x5) fun u8 => (k1 (xload E.P m 69 u8) fun u9 => (k1 (mbin E .neq 69 u7 u9) fun u10 => (kb u10 (kr (.bool false) m) (k1 (mbin E .add 3 x5 (.int .i64 1)) fun u11 => (ih x0 x1 u11 m)))))))) (kx0 m))))) n
noncomputable def r37 (call : CallF) (fuel base : Nat) (x0 : Value) (x1 : Value) (m : M) : Res2 :=
  (k2 (vcall E.P base m .len [47] [x0]) fun u1 m => (k2 (vcall E.P base m .len [47] [x1]) fun u2 m => (k1 (mbin E .neq 3 u1 u2) fun u3 => (kb u3 (fVal (.bool false) fun v => some (.ret v, m)) (r37_L0 call fuel base (fun w12 m => (fVal w12 fun v => some (.ret v, m))) (fun m => (fVal (.bool true) fun v => some (.ret v, m))) fuel x0 x1 (.int .i64 0) m)))))
def keep37 : Keep := { region := fun i => ([[0, 1], [0, 1, 10], [4], [0, 1, 5], [0, 1, 5, 14], [0, 1, 5], [0, 1, 5, 25], [4], [4]] : List (List Nat))[i]?, exit := fun i => ([[], [0, 1, 5]] : List (List Nat))[i]?, ret := some [4] }
noncomputable def r37_L0_R (call : CallF) (fuel base n : Nat) (vs : List Value) (m : M) (K : KT) : Res2 := match vs with
  | [x0, x1, x5] => r37_L0 call fuel base (fun y4 m => K .ret { n := 26, l := [(4, y4)] } m) (fun m => K (.exit 0) { n := 26, l := [] } m) n x0 x1 x5 m
  | _ => none
noncomputable def lp37 (call : CallF) (fuel base : Nat) : Lp := lpsel [(0, fun T m K => kslots 26 [0, 1, 5] T fun vs => r37_L0_R call fuel base fuel vs m K)]
noncomputable def c37 : Code := Try.f37.body.getD .skip
noncomputable def p37_0 : Code := loopB (blockB (seqR (seqL (seqR (seqR c37)))))
theorem r37_L0_ok (call : CallF) (fuel base : Nat) : LQ lp37 call fuel base 0 p37_0 := by
  refine loop_ok (kp := keep37) (hb := Eq.mpr (show _ = (And B3 (And D3 True)) by kernel_rfl) ⟨q3, ⟨e3, trivial⟩⟩) 26 [0, 1, 5] (r37_L0_R call fuel base) ?_ ?_ (fun _ _ _ => rfl)
  · intro vs m K
    unfold r37_L0_R
    split <;> rfl
  · intro n vs m K hl
    match vs, hl with
    | [x0, x1, x5], _ => show _ = _; kernel_rfl
theorem r37_eq (call : CallF) (fuel base : Nat) (x0 : Value) (x1 : Value) (m : M) : kbody E call keep37 (lp37 call fuel base) base Try.f37 [x0, x1] m = r37 call fuel base x0 x1 m := by
  kernel_rfl
noncomputable def rf37 : RF := fun call fuel base args m => match args with
  | [x0, x1] => r37 call fuel base x0 x1 m
  | _ => none
theorem rf37_ok : RFok E 37 rf37 := by
  show RFok' E 37 rf37
  refine ⟨Try.f37, (by kernel_rfl), fun call fuel base args m r _ h => ?_⟩
  unfold rf37 at h
  split at h
  · rw [← r37_eq] at h
    exact kbody_sound (c := c37) (by kernel_rfl) (Eq.mpr (show _ = (And True (And D3 (And (And True (LQ lp37 call fuel base 0 p37_0)) B2))) by kernel_rfl) ⟨trivial, ⟨e3, ⟨⟨trivial, (r37_L0_ok call fuel base)⟩, q2⟩⟩⟩) h
  · simp at h
end Go.AM
namespace Go.AM
open Go Go.Proofs
noncomputable def r38 (call : CallF) (fuel base : Nat) (x0 : Value) (x1 : Value) (x2 : Value) (m : M) : Res2 :=
  (k2 (xbox m x0) fun u1 m => (k1 (mbin E .eql 3 x2 (.int .i64 1)) fun u2 => (kb u2 (k1 (xload E.P m 23 u1) fun u3 => (kc (call base 70 [u3, x1] m) (fun u4 m => (fVal u4 fun v => some (.ret v, m))) (fun v m => some (.pan v, m)))) (k1 (mbin E .eql 3 x2 (.int .i64 2)) fun u5 => (kb u5 (k1 (xload E.P m 23 u1) fun u6 => (kc (call base 68 [u6, x1] m) (fun u7 m => (fVal u7 fun v => some (.ret v, m))) (fun v m => some (.pan v, m)))) (k1 (mbin E .eql 3 x2 (.int .i64 3)) fun u8 => (kb u8 (k1 (xload E.P m 23 u1) fun u9 => (kc (call base 71 [u9, x1] m) (fun u10 m => (fVal u10 fun v => some (.ret v, m))) (fun v m => some (.pan v, m)))) (k1 (mbin E .eql 3 x2 (.int .i64 4)) fun u11 => (kb u11 (k1 (mfieldAddr E.P 23 u1 1) fun u12 => (k1 (xload E.P m 3 u12) fun u13 => (k1 (mfieldAddr E.P 23 u1 0) fun u14 => (k1 (xload E.P m 3 u14) fun u15 => (k1 (mfieldAddr E.P 23 u1 2) fun u16 => (k1 (xload E.P m 3 u16) fun u17 => (k1 (mbuild E.P 23 [(0, u13), (1, u15), (2, u17)]) fun u18 => (k1 (xload E.P m 23 u1) fun u19 => (kc (kB m (call m.length 68 [u19, x1] m)) (fun u20 m => (kc (kB m (call m.length 70 [u18, u20] m)) (fun u21 m => (fVal u21 fun v => some (.ret v, m))) (fun _ _ => none))) (fun _ _ => none)))))))))) (fVal x1 fun v => some (.ret v, m)))))))))))
def keep38 : Keep := { region := fun i => ([[1, 2, 3], [1, 3, 7], [1, 3, 7, 8], [6], [1, 3, 7, 13], [6], [1, 3, 7, 18], [6], [1, 3, 23], [6], [6]] : List (List Nat))[i]?, exit := fun i => ([[1]] : List (List Nat))[i]?, ret := some [6] }
noncomputable def lp38 (call : CallF) (fuel base : Nat) : Lp := lpsel []
noncomputable def c38 : Code := Try.f38.body.getD .skip
theorem r38_eq (call : CallF) (fuel base : Nat) (x0 : Value) (x1 : Value) (x2 : Value) (m : M) : kbody E call keep38 (lp38 call fuel base) base Try.f38 [x0, x1, x2] m = r38 call fuel base x0 x1 x2 m := by
  kernel_rfl
noncomputable def rf38 : RF := fun call fuel base args m => match args with
  | [x0, x1, x2] => r38 call fuel base x0 x1 x2 m
  | _ => none
theorem rf38_ok : RFok E 38 rf38 := by
  show RFok' E 38 rf38
  refine ⟨Try.f38, (by kernel_rfl), fun call fuel base args m r _ h => ?_⟩
  unfold rf38 at h
  split at h
  · rw [← r38_eq] at h
    exact kbody_sound (c := c38) (by kernel_rfl) (Eq.mpr (show _ = (And True (And (And True (And True (And B2 (And True (And B2 (And True (And B2 D3))))))) B2)) by kernel_rfl) ⟨trivial, ⟨⟨trivial, ⟨trivial, ⟨q2, ⟨trivial, ⟨q2, ⟨trivial, ⟨q2, e3⟩⟩⟩⟩⟩⟩⟩, q2⟩⟩) h
  · simp at h
end Go.AM
namespace Go.AM
open Go Go.Proofs
noncomputable def r45_L2 (call : CallF) (fuel base : Nat) (kr : Value → M → Res2) (kx2 : Value → Value → Value → M → Res2) (n : Nat) : Value → Value → Value → Value → M → Res2 :=
  Nat.rec (motive := fun _ => Value → Value → Value → Value → M → Res2) (fun _ _ _ _ _ => none)
    (fun _ ih x1 x2 x5 x6 m =>
      (k1 (mfieldAddr E.P 23 x2 1) fun u15 => (k1 (xload E.P m 3 u15) fun u16 => (k1 (mbin E .lss 3 x6 u16) fun u17 => (kb u17 (k1 (mindexAddr E.P 33 x1 x5) fun u18 => (k1 (xload E.P m 27 u18) fun u19 => (k1 (mindexAddr E.P 27 u19 x6) fun u20 => (k1 (xload E.P m 3 u20) fun u21 => (k1 (mbin E .lss 3 u21 (.int .i64 0)) fun u22 => (kb u22 (kr (.bool false) m) (k1 (mindexAddr E.P 33 x1 x5) fun u23 => (k1 (xload E.P m 27 u23) fun u24 => (k1 (mindexAddr E.P 27 u24 x6) fun u25 => (k1 (xload E.P m 3 u25) fun u26 => (k1 (xload E.P m 23 x2) fun u27 => (kc (kB m (call m.length 74 [u27, x1, x5, x6] m)) (fun u28 m => (k1 (mbin E .gtr 3 u26 u28) fun u29 => (kb u29 (kr (.bool false) m) (k1 (mbin E .add 3 x6 (.int .i64 1)) fun u30 => (ih x1 x2 x5 u30 m))))) (fun _ _ => none))))))))))))) (kx2 x1 x2 x5 m)))))) n
noncomputable def r45_L0 (call : CallF) (fuel base : Nat) (kr : Value → M → Res2) (kx0 : M → Res2) (n : Nat) : Value → Value → Value → M → Res2 :=
  Nat.rec (motive := fun _ => Value → Value → Value → M → Res2) (fun _ _ _ _ => none)
    (fun _ ih x1 x2 x5 m =>
      (k1 (mfieldAddr E.P 23 x2 0) fun u6 => (k1 (xload E.P m 3 u6) fun u7 => (k1 (mbin E .lss 3 x5 u7) fun u8 => (kb u8 (k1 (mindexAddr E.P 33 x1 x5) fun u9 => (k1 (xload E.P m 27 u9) fun u10 => (k2 (vcall E.P base m .len [27] [u10]) fun u11 m => (k1 (mfieldAddr E.P 23 x2 1) fun u12 => (k1 (xload E.P m 3 u12) fun u13 => (k1 (mbin E .neq 3 u11 u13) fun u14 => (kb u14 (kr (.bool false) m) (r45_L2 call fuel base (fun w31 m => (kr w31 m)) (fun w32 w33 w34 m => (k1 (mbin E .add 3 w34 (.int .i64 1)) fun u35 => (ih w32 w33 u35 m))) fuel x1 x2 x5 (.int .i64 0) m)))))))) (kx0 m)))))) n
noncomputable def r45 (call : CallF) (fuel base : Nat) (x0 : Value) (x1 : Value) (m : M) : Res2 :=
  (k2 (xbox m x0) fun u1 m => (k2 (vcall E.P base m .len [33] [x1]) fun u2 m => (k1 (mfieldAddr E.P 23 u1 0) fun u3 => (k1 (xload E.P m 3 u3) fun u4 => (k1 (mbin E .neq 3 u2 u4) fun u5 => (kb u5 (fVal (.bool false) fun v => some (.ret v, m)) (r45_L0 call fuel base (fun w36 m => (fVal w36 fun v => some (.ret v, m))) (fun m => (fVal (.bool true) fun v => some (.ret v, m))) fuel x1 u1 (.int .i64 0) m)))))))
def keep45 : Keep := { region := fun i => ([[1, 2], [1, 2, 11], [4], [1, 2, 5], [1, 2, 5, 15], [1, 2, 5], [1, 2, 5, 25], [4], [1, 2, 5, 6], [1, 2, 5, 6, 29], [1, 2, 5, 6], [1, 2, 5, 6, 54], [4], [4]] : List (List Nat))[i]?, exit := fun i => ([[], [1, 2, 5], [1, 2, 5], [1, 2, 5, 6]] : List (List Nat))[i]?, ret := some [4] }
noncomputable def r45_L2_R (call : CallF) (fuel base n : Nat) (vs : List Value) (m : M) (K : KT) : Res2 := match vs with
  | [x1, x2, x5, x6] => r45_L2 call fuel base (fun y4 m => K .ret { n := 55, l := [(4, y4)] } m) (fun y1 y2 y5 m => K (.exit 2) { n := 55, l := [(1, y1), (2, y2), (5, y5)] } m) n x1 x2 x5 x6 m
  | _ => none
noncomputable def r45_L0_R (call : CallF) (fuel base n : Nat) (vs : List Value) (m : M) (K : KT) : Res2 := match vs with
  | [x1, x2, x5] => r45_L0 call fuel base (fun y4 m => K .ret { n := 55, l := [(4, y4)] } m) (fun m => K (.exit 0) { n := 55, l := [] } m) n x1 x2 x5 m
  | _ => none
noncomputable def lp45 (call : CallF) (fuel base : Nat) : Lp := lpsel [(2, fun T m K => kslots 55 [1, 2, 5, 6] T fun vs => r45_L2_R call fuel base fuel vs m K), (0, fun T m K => kslots 55 [1, 2, 5] T fun vs => r45_L0_R call fuel base fuel vs m K)]
noncomputable def c45 : Code := Try.f45.body.getD .skip
noncomputable def p45_0 : Code := loopB (blockB (seqR (seqL (seqR (seqR c45)))))
noncomputable def p45_2 : Code := loopB (blockB (seqR (seqR (blockB (seqL (seqR (loopB (blockB (seqR (seqL (seqR (seqR c45))))))))))))
theorem r45_L2_ok (call : CallF) (fuel base : Nat) : LQ lp45 call fuel base 2 p45_2 := by
  refine loop_ok (kp := keep45) (hb := Eq.mpr (show _ = (And B3 (And D3 True)) by kernel_rfl) ⟨q3, ⟨e3, trivial⟩⟩) 55 [1, 2, 5, 6] (r45_L2_R call fuel base) ?_ ?_ (fun _ _ _ => rfl)
  · intro vs m K
    unfold r45_L2_R
    split <;> rfl
  · intro n vs m K hl
    match vs, hl with
    | [x1, x2, x5, x6], _ => show _ = _; kernel_rfl
theorem r45_L0_ok (call : CallF) (fuel base : Nat) : LQ lp45 call fuel base 0 p45_0 := by
  refine loop_ok (kp := keep45) (hb := Eq.mpr (show _ = (And B3 (And (And D3 (And True (LQ lp45 call fuel base 2 p45_2))) True)) by kernel_rfl) ⟨q3, ⟨⟨e3, ⟨trivial, (r45_L2_ok call fuel base)⟩⟩, trivial⟩⟩) 55 [1, 2, 5] (r45_L0_R call fuel base) ?_ ?_ (fun _ _ _ => rfl)
  · intro vs m K
    unfold r45_L0_R
    split <;> rfl
  · intro n vs m K hl
    match vs, hl with
    | [x1, x2, x5], _ => show _ = _; kernel_rfl
theorem r45_eq (call : CallF) (fuel base : Nat) (x0 : Value) (x1 : Value) (m : M) : kbody E call keep45 (lp45 call fuel base) base Try.f45 [x0, x1] m = r45 call fuel base x0 x1 m := by
  kernel_rfl
noncomputable def rf45 : RF := fun call fuel base args m => match args with
  | [x0, x1] => r45 call fuel base x0 x1 m
  | _ => none
theorem rf45_ok : RFok E 45 rf45 := by
  show RFok' E 45 rf45
  refine ⟨Try.f45, (by kernel_rfl), fun call fuel base args m r _ h => ?_⟩
  unfold rf45 at h
  split at h
  · rw [← r45_eq] at h
    exact kbody_sound (c := c45) (by kernel_rfl) (Eq.mpr (show _ = (And True (And D3 (And (And True (LQ lp45 call fuel base 0 p45_0)) B2))) by kernel_rfl) ⟨trivial, ⟨e3, ⟨⟨trivial, (r45_L0_ok call fuel base)⟩, q2⟩⟩⟩) h
  · simp at h
end Go.AM
namespace Go.AM
open Go Go.Proofs
noncomputable def r47 (call : CallF) (fuel base : Nat) (x0 : Value) (m : M) : Res2 :=
  (k2 (xbox m x0) fun u1 m => (k1 (mfieldAddr E.P 23 u1 0) fun u2 => (k1 (xload E.P m 3 u2) fun u3 => (kc (call base 75 [u3] m) (fun u4 m => (kb u4 (k1 (mfieldAddr E.P 23 u1 1) fun u5 => (k1 (xload E.P m 3 u5) fun u6 => (kc (call base 75 [u6] m) (fun u7 m => (kb u7 (k1 (mfieldAddr E.P 23 u1 2) fun u8 => (k1 (xload E.P m 3 u8) fun u9 => (kc (call base 75 [u9] m) (fun u10 m => (fVal u10 fun v => some (.ret v, m))) (fun v m => some (.pan v, m))))) (fVal (.bool false) fun v => some (.ret v, m)))) (fun v m => some (.pan v, m))))) (fVal (.bool false) fun v => some (.ret v, m)))) (fun v m => some (.pan v, m))))))
def keep47 : Keep := { region := fun i => ([[1], [2]] : List (List Nat))[i]?, exit := fun i => ([] : List (List Nat))[i]?, ret := some [2] }
noncomputable def lp47 (call : CallF) (fuel base : Nat) : Lp := lpsel []
noncomputable def c47 : Code := Try.f47.body.getD .skip
theorem r47_eq (call : CallF) (fuel base : Nat) (x0 : Value) (m : M) : kbody E call keep47 (lp47 call fuel base) base Try.f47 [x0] m = r47 call fuel base x0 m := by
  kernel_rfl
noncomputable def rf47 : RF := fun call fuel base args m => match args with
  | [x0] => r47 call fuel base x0 m
  | _ => none
theorem rf47_ok : RFok E 47 rf47 := by
  show RFok' E 47 rf47
  refine ⟨Try.f47, (by kernel_rfl), fun call fuel base args m r _ h => ?_⟩
  unfold rf47 at h
  split at h
  · rw [← r47_eq] at h
    exact kbody_sound (c := c47) (by kernel_rfl) (Eq.mpr (show _ = B3 by kernel_rfl) q3) h
  · simp at h
end Go.AM
namespace Go.AM
open Go Go.Proofs
noncomputable def r48_L2 (call : CallF) (fuel base : Nat) (kx2 : Value → Value → Value → Value → M → Res2) (n : Nat) : Value → Value → Value → Value → Value → M → Res2 :=
  Nat.rec (motive := fun _ => Value → Value → Value → Value → Value → M → Res2) (fun _ _ _ _ _ _ => none)
    (fun _ ih x1 x3 x4 x5 x6 m =>
      (k1 (mfieldAddr E.P 23 x1 1) fun u5 => (k1 (xload E.P m 3 u5) fun u6 => (k1 (mbin E .leq 3 x6 u6) fun u7 => (kb u7 (k1 (mbin E .add 3 x5 x6) fun u8 => (k1 (mfieldAddr E.P 23 x1 2) fun u9 => (k1 (xload E.P m 3 u9) fun u10 => (k1 (mbin E .add 3 u8 u10) fun u11 => (k1 (mbin E .sub 3 u11 (.int .i64 1)) fun u12 => (k1 (mbin E .mul 3 x3 u12) fun u13 => (k1 (mbin E .add 3 x5 x6) fun u14 => (k1 (mbin E .sub 3 u14 (.int .i64 1)) fun u15 => (k1 (mbin E .mul 3 x4 u15) fun u16 => (k1 (mbin E .add 3 x6 (.int .i64 1)) fun u17 => (ih x1 u13 u16 x5 u17 m))))))))))) (kx2 x1 x3 x4 x5 m)))))) n
noncomputable def r48_L0 (call : CallF) (fuel base : Nat) (kx0 : Value → Value → M → Res2) (n : Nat) : Value → Value → Value → Value → M → Res2 :=
  Nat.rec (motive := fun _ => Value → Value → Value → Value → M → Res2) (fun _ _ _ _ _ => none)
    (fun _ ih x1 x3 x4 x5 m =>
      (k1 (mfieldAddr E.P 23 x1 0) fun u2 => (k1 (xload E.P m 3 u2) fun u3 => (k1 (mbin E .leq 3 x5 u3) fun u4 => (kb u4 (r48_L2 call fuel base (fun w18 w19 w20 w21 m => (k1 (mbin E .add 3 w21 (.int .i64 1)) fun u22 => (ih w18 w19 w20 u22 m))) fuel x1 x3 x4 x5 (.int .i64 1) m) (kx0 x3 x4 m)))))) n
noncomputable def r48 (call : CallF) (fuel base : Nat) (x0 : Value) (m : M) : Res2 :=
  (k2 (xbox m x0) fun u1 m => (r48_L0 call fuel base (fun w23 w24 m => (k1 (mbin E .quo 3 w23 w24) fun u25 => (fVal u25 fun v => some (.ret v, m)))) fuel u1 (.int .i64 1) (.int .i64 1) (.int .i64 1) m))
def keep48 : Keep := { region := fun i => ([[1], [1, 3, 4], [1, 3, 4, 5], [1, 3, 4, 5, 10], [1, 3, 4, 5], [1, 3, 4, 5, 6], [1, 3, 4, 5, 6, 16], [1, 3, 4, 5, 6], [1, 3, 4, 5, 6], [1, 3, 4, 5, 6], [2]] : List (List Nat))[i]?, exit := fun i => ([[3, 4], [1, 3, 4, 5], [1, 3, 4, 5], [1, 3, 4, 5, 6]] : List (List Nat))[i]?, ret := some [2] }
noncomputable def r48_L2_R (call : CallF) (fuel base n : Nat) (vs : List Value) (m : M) (K : KT) : Res2 := match vs with
  | [x1, x3, x4, x5, x6] => r48_L2 call fuel base (fun y1 y3 y4 y5 m => K (.exit 2) { n := 37, l := [(1, y1), (3, y3), (4, y4), (5, y5)] } m) n x1 x3 x4 x5 x6 m
  | _ => none
noncomputable def r48_L0_R (call : CallF) (fuel base n : Nat) (vs : List Value) (m : M) (K : KT) : Res2 := match vs with
  | [x1, x3, x4, x5] => r48_L0 call fuel base (fun y3 y4 m => K (.exit 0) { n := 37, l := [(3, y3), (4, y4)] } m) n x1 x3 x4 x5 m
  | _ => none
noncomputable def lp48 (call : CallF) (fuel base : Nat) : Lp := lpsel [(2, fun T m K => kslots 37 [1, 3, 4, 5, 6] T fun vs => r48_L2_R call fuel base fuel vs m K), (0, fun T m K => kslots 37 [1, 3, 4, 5] T fun vs => r48_L0_R call fuel base fuel vs m K)]
noncomputable def c48 : Code := Try.f48.body.getD .skip
noncomputable def p48_0 : Code := loopB (blockB (seqR (seqL (seqR (seqR c48)))))
noncomputable def p48_2 : Code := loopB (blockB (seqR (blockB (seqL (seqR (loopB (blockB (seqR (seqL (seqR (seqR c48)))))))))))
theorem r48_L2_ok (call : CallF) (fuel base : Nat) : LQ lp48 call fuel base 2 p48_2 := by
  refine loop_ok (kp := keep48) (hb := Eq.mpr (show _ = (And B3 D2) by kernel_rfl) ⟨q3, e2⟩) 37 [1, 3, 4, 5, 6] (r48_L2_R call fuel base) ?_ ?_ (fun _ _ _ => rfl)
  · intro vs m K
    unfold r48_L2_R
    split <;> rfl
  · intro n vs m K hl
    match vs, hl with
    | [x1, x3, x4, x5, x6], _ => show _ = _; kernel_rfl
theorem r48_L0_ok (call : CallF) (fuel base : Nat) : LQ lp48 call fuel base 0 p48_0 := by
  refine loop_ok (kp := keep48) (hb := Eq.mpr (show _ = (And B3 (And (And True (LQ lp48 call fuel base 2 p48_2)) True)) by kernel_rfl) ⟨q3, ⟨⟨trivial, (r48_L2_ok call fuel base)⟩, trivial⟩⟩) 37 [1, 3, 4, 5] (r48_L0_R call fuel base) ?_ ?_ (fun _ _ _ => rfl)
  · intro vs m K
    unfold r48_L0_R
    split <;> rfl
  · intro n vs m K hl
    match vs, hl with
    | [x1, x3, x4, x5], _ => show _ = _; kernel_rfl
theorem r48_eq (call : CallF) (fuel base : Nat) (x0 : Value) (m : M) : kbody E call keep48 (lp48 call fuel base) base Try.f48 [x0] m = r48 call fuel base x0 m := by
  kernel_rfl
noncomputable def rf48 : RF := fun call fuel base args m => match args with
  | [x0] => r48 call fuel base x0 m
  | _ => none
theorem rf48_ok : RFok E 48 rf48 := by
  show RFok' E 48 rf48
  refine ⟨Try.f48, (by kernel_rfl), fun call fuel base args m r _ h => ?_⟩
  unfold rf48 at h
  split at h
  · rw [← r48_eq] at h
    exact kbody_sound (c := c48) (by kernel_rfl) (Eq.mpr (show _ = (And True (And True (And (And True (LQ lp48 call fuel base 0 p48_0)) B2))) by kernel_rfl) ⟨trivial, ⟨trivial, ⟨⟨trivial, (r48_L0_ok call fuel base)⟩, q2⟩⟩⟩) h
  · simp at h
end Go.AM
namespace Go.AM
open Go Go.Proofs
noncomputable def r49_L2 (call : CallF) (fuel base : Nat) (kx2 : Value → Value → Value → Value → M → Res2) (n : Nat) : Value → Value → Value → Value → Value → Value → Value → M → Res2 :=
  Nat.rec (motive := fun _ => Value → Value → Value → Value → Value → Value → Value → M → Res2) (fun _ _ _ _ _ _ _ _ => none)
    (fun _ ih x1 x3 x4 x10 x11 x24 x25 m =>
      (k1 (mbin E .lss 3 x25 x24) fun u14 => (kb u14 (k1 (mindexAddr E.P 33 x3 x4) fun u15 => (k1 (xload E.P m 27 u15) fun u16 => (k1 (mfieldAddr E.P 23 x1 1) fun u17 => (k1 (xload E.P m 3 u17) fun u18 => (k1 (mfieldAddr E.P 23 x1 2) fun u19 => (k1 (xload E.P m 3 u19) fun u20 => (k1 (mbin E .add 3 u18 u20) fun u21 => (k1 (mfieldAddr E.P 23 x1 1) fun u22 => (k1 (xload E.P m 3 u22) fun u23 => (k1 (mbin E .sub 3 u23 x4) fun u24 => (k1 (mbin E .add 3 u24 x25) fun u25 => (kc (kB m (call m.length 76 [u21, u25] m)) (fun u26 m => (k1 (mindexAddr E.P 27 u16 x25) fun u27 => (ks (xstore E.P base m 3 u27 u26) fun m => (k1 (mbin E .add 3 x25 (.int .i64 1)) fun u28 => (ih x1 x3 x4 x10 x11 x24 u28 m))))) (fun _ _ => none))))))))))))) (kx2 x1 x3 x10 x11 m)))) n
noncomputable def r49_L0 (call : CallF) (fuel base : Nat) (kx0 : Value → M → Res2) (n : Nat) : Value → Value → Value → Value → M → Res2 :=
  Nat.rec (motive := fun _ => Value → Value → Value → Value → M → Res2) (fun _ _ _ _ _ => none)
    (fun _ ih x1 x3 x10 x11 m =>
      (k1 (mbin E .lss 3 x11 x10) fun u6 => (kb u6 (k1 (mfieldAddr E.P 23 x1 0) fun u7 => (k1 (xload E.P m 3 u7) fun u8 => (k2 (xmakeSlice E.P m 27 u8 u8) fun u9 m => (k1 (mindexAddr E.P 33 x3 x11) fun u10 => (ks (xstore E.P base m 27 u10 u9) fun m => (k1 (mindexAddr E.P 33 x3 x11) fun u11 => (k1 (xload E.P m 27 u11) fun u12 => (k2 (vcall E.P base m .len [27] [u12]) fun u13 m => (r49_L2 call fuel base (fun w29 w30 w31 w32 m => (k1 (mbin E .add 3 w32 (.int .i64 1)) fun u33 => (ih w29 w30 w31 u33 m))) fuel x1 x3 x11 x10 x11 u13 (.int .i64 0) m))))))))) (kx0 x3 m)))) n
noncomputable def r49 (call : CallF) (fuel base : Nat) (x0 : Value) (m : M) : Res2 :=
  (k2 (xbox m x0) fun u1 m => (k1 (mfieldAddr E.P 23 u1 0) fun u2 => (k1 (xload E.P m 3 u2) fun u3 => (k2 (xmakeSlice E.P m 33 u3 u3) fun u4 m => (k2 (vcall E.P base m .len [33] [u4]) fun u5 m => (r49_L0 call fuel base (fun w34 m => (kc (call base 77 [w34] m) (fun u35 m => (fVal u35 fun v => some (.ret v, m))) (fun v m => some (.pan v, m)))) fuel u1 u4 u5 (.int .i64 0) m))))))
def keep49 : Keep := { region := fun i => ([[1], [1, 3], [1, 3, 10, 11], [1, 3, 10, 11, 12], [1, 3, 4, 10, 11], [1, 3, 4, 10, 11], [1, 3, 4, 10, 11, 24, 25], [1, 3, 4, 10, 11, 24, 25, 26], [1, 3, 4, 5, 10, 11, 24, 25], [1, 3, 4, 10, 11, 24, 25], [1, 3, 4, 10, 11, 24, 25], [1, 3, 10, 11], [2]] : List (List Nat))[i]?, exit := fun i => ([[3], [1, 3, 10, 11], [1, 3, 10, 11], [1, 3, 4, 10, 11, 24, 25]] : List (List Nat))[i]?, ret := some [2] }
noncomputable def r49_L2_R (call : CallF) (fuel base n : Nat) (vs : List Value) (m : M) (K : KT) : Res2 := match vs with
  | [x1, x3, x4, x10, x11, x24, x25] => r49_L2 call fuel base (fun y1 y3 y10 y11 m => K (.exit 2) { n := 50, l := [(1, y1), (3, y3), (10, y10), (11, y11)] } m) n x1 x3 x4 x10 x11 x24 x25 m
  | _ => none
noncomputable def r49_L0_R (call : CallF) (fuel base n : Nat) (vs : List Value) (m : M) (K : KT) : Res2 := match vs with
  | [x1, x3, x10, x11] => r49_L0 call fuel base (fun y3 m => K (.exit 0) { n := 50, l := [(3, y3)] } m) n x1 x3 x10 x11 m
  | _ => none
noncomputable def lp49 (call : CallF) (fuel base : Nat) : Lp := lpsel [(2, fun T m K => kslots 50 [1, 3, 4, 10, 11, 24, 25] T fun vs => r49_L2_R call fuel base fuel vs m K), (0, fun T m K => kslots 50 [1, 3, 10, 11] T fun vs => r49_L0_R call fuel base fuel vs m K)]
noncomputable def c49 : Code := Try.f49.body.getD .skip
noncomputable def p49_0 : Code := loopB (blockB (seqR (seqL (seqR (seqR c49)))))
noncomputable def p49_2 : Code := loopB (blockB (seqR (seqR (seqR (blockB (seqL (seqR (seqR (loopB (blockB (seqR (seqL (seqR (seqR c49))))))))))))))
theorem r49_L2_ok (call : CallF) (fuel base : Nat) : LQ lp49 call fuel base 2 p49_2 := by
  refine loop_ok (kp := keep49) (hb := Eq.mpr (show _ = (And True (And B2 D2)) by kernel_rfl) ⟨trivial, ⟨q2, e2⟩⟩) 50 [1, 3, 4, 10, 11, 24, 25] (r49_L2_R call fuel base) ?_ ?_ (fun _ _ _ => rfl)
  · intro vs m K
    unfold r49_L2_R
    split <;> rfl
  · intro n vs m K hl
    match vs, hl with
    | [x1, x3, x4, x10, x11, x24, x25], _ => show _ = _; kernel_rfl
theorem r49_L0_ok (call : CallF) (fuel base : Nat) : LQ lp49 call fuel base 0 p49_0 := by
  refine loop_ok (kp := keep49) (hb := Eq.mpr (show _ = (And True (And B2 (And (And True (And True (And True (LQ lp49 call fuel base 2 p49_2)))) True))) by kernel_rfl) ⟨trivial, ⟨q2, ⟨⟨trivial, ⟨trivial, ⟨trivial, (r49_L2_ok call fuel base)⟩⟩⟩, trivial⟩⟩⟩) 50 [1, 3, 10, 11] (r49_L0_R call fuel base) ?_ ?_ (fun _ _ _ => rfl)
  · intro vs m K
    unfold r49_L0_R
    split <;> rfl
  · intro n vs m K hl
    match vs, hl with
    | [x1, x3, x10, x11], _ => show _ = _; kernel_rfl
theorem r49_eq (call : CallF) (fuel base : Nat) (x0 : Value) (m : M) : kbody E call keep49 (lp49 call fuel base) base Try.f49 [x0] m = r49 call fuel base x0 m := by
  kernel_rfl
noncomputable def rf49 : RF := fun call fuel base args m => match args with
  | [x0] => r49 call fuel base x0 m
  | _ => none
theorem rf49_ok : RFok E 49 rf49 := by
  show RFok' E 49 rf49
  refine ⟨Try.f49, (by kernel_rfl), fun call fuel base args m r _ h => ?_⟩
  unfold rf49 at h
  split at h
  · rw [← r49_eq] at h
    exact kbody_sound (c := c49) (by kernel_rfl) (Eq.mpr (show _ = (And True (And True (And (And True (LQ lp49 call fuel base 0 p49_0)) B2))) by kernel_rfl) ⟨trivial, ⟨trivial, ⟨⟨trivial, (r49_L0_ok call fuel base)⟩, q2⟩⟩⟩) h
  · simp at h
end Go.AM
namespace Go.AM
open Go Go.Proofs
noncomputable def r50 (call : CallF) (fuel base : Nat) (x0 : Value) (m : M) : Res2 :=
  (k2 (xbox m x0) fun u1 m => (k1 (mfieldAddr E.P 23 u1 0) fun u2 => (k1 (xload E.P m 3 u2) fun u3 => (k1 (mbin E .geq 3 u3 (.int .i64 1)) fun u4 => (kb u4 (k1 (mfieldAddr E.P 23 u1 0) fun u5 => (k1 (xload E.P m 3 u5) fun u6 => (k1 (mbin E .leq 3 u6 (.int .i64 4)) fun u7 => (kb u7 (k1 (mfieldAddr E.P 23 u1 1) fun u8 => (k1 (xload E.P m 3 u8) fun u9 => (k1 (mbin E .geq 3 u9 (.int .i64 1)) fun u10 => (kb u10 (k1 (mfieldAddr E.P 23 u1 1) fun u11 => (k1 (xload E.P m 3 u11) fun u12 => (k1 (mbin E .leq 3 u12 (.int .i64 4)) fun u13 => (kb u13 (k1 (mfieldAddr E.P 23 u1 2) fun u14 => (k1 (xload E.P m 3 u14) fun u15 => (k1 (mbin E .geq 3 u15 (.int .i64 1)) fun u16 => (kb u16 (k1 (mfieldAddr E.P 23 u1 2) fun u17 => (k1 (xload E.P m 3 u17) fun u18 => (k1 (mbin E .leq 3 u18 (.int .i64 4)) fun u19 => (fVal u19 fun v => some (.ret v, m))))) (fVal (.bool false) fun v => some (.ret v, m)))))) (fVal (.bool false) fun v => some (.ret v, m)))))) (fVal (.bool false) fun v => some (.ret v, m)))))) (fVal (.bool false) fun v => some (.ret v, m)))))) (fVal (.bool false) fun v => some (.ret v, m)))))))
def keep50 : Keep := { region := fun i => ([[1], [2]] : List (List Nat))[i]?, exit := fun i => ([] : List (List Nat))[i]?, ret := some [2] }
noncomputable def lp50 (call : CallF) (fuel base : Nat) : Lp := lpsel []
noncomputable def c50 : Code := Try.f50.body.getD .skip
theorem r50_eq (call : CallF) (fuel base : Nat) (x0 : Value) (m : M) : kbody E call keep50 (lp50 call fuel base) base Try.f50 [x0] m = r50 call fuel base x0 m := by
  kernel_rfl
noncomputable def rf50 : RF := fun call fuel base args m => match args with
  | [x0] => r50 call fuel base x0 m
  | _ => none
theorem rf50_ok : RFok E 50 rf50 := by
  show RFok' E 50 rf50
  refine ⟨Try.f50, (by kernel_rfl), fun call fuel base args m r _ h => ?_⟩
  unfold rf50 at h
  split at h
  · rw [← r50_eq] at h
    exact kbody_sound (c := c50) (by kernel_rfl) (Eq.mpr (show _ = B3 by kernel_rfl) q3) h
  · simp at h
end Go.AM
namespace Go.AM
open Go Go.Proofs
noncomputable def r54_L0 (call : CallF) (fuel base : Nat) (kx0 : Value → M → Res2) (n : Nat) : Value → Value → Value → M → Res2 :=
  Nat.rec (motive := fun _ => Value → Value → Value → M → Res2) (fun _ _ _ _ => none)
    (fun _ ih x1 x3 x4 m =>
      (k1 (mfieldAddr E.P 23 x1 0) fun u2 => (k1 (xload E.P m 3 u2) fun u3 => (k1 (mbin E .lss 3 x4 u3) fun u4 => (kb u4 (k1 (mfieldAddr E.P 23 x1 1) fun u5 => (k1 (xload E.P m 3 u5) fun u6 => (k2 (xmakeSlice E.P m 27 u6 u6) fun u7 m => (k2 (xbuildSlice E.P m 33 1 [(0, u7)]) fun u8 m => (k2 (vcall E.P base m .append [33, 33] [x3, u8]) fun u9 m => (k1 (mbin E .add 3 x4 (.int .i64 1)) fun u10 => (ih x1 u9 u10 m))))))) (kx0 x3 m)))))) n
noncomputable def r54 (call : CallF) (fuel base : Nat) (x0 : Value) (m : M) : Res2 :=
  (k2 (xbox m x0) fun u1 m => (r54_L0 call fuel base (fun w11 m => (fVal w11 fun v => some (.ret v, m))) fuel u1 (.slice none 0 0) (.int .i64 0) m))
def keep54 : Keep := { region := fun i => ([[1], [1, 3], [1, 3, 4], [1, 3, 4, 8], [1, 3, 4], [1, 3, 4], [2]] : List (List Nat))[i]?, exit := fun i => ([[3], [1, 3, 4]] : List (List Nat))[i]?, ret := some [2] }
noncomputable def r54_L0_R (call : CallF) (fuel base n : Nat) (vs : List Value) (m : M) (K : KT) : Res2 := match vs with
  | [x1, x3, x4] => r54_L0 call fuel base (fun y3 m => K (.exit 0) { n := 18, l := [(3, y3)] } m) n x1 x3 x4 m
  | _ => none
noncomputable def lp54 (call : CallF) (fuel base : Nat) : Lp := lpsel [(0, fun T m K => kslots 18 [1, 3, 4] T fun vs => r54_L0_R call fuel base fuel vs m K)]
noncomputable def c54 : Code := Try.f54.body.getD .skip
noncomputable def p54_0 : Code := loopB (blockB (seqR (seqL (seqR (seqR c54)))))
theorem r54_L0_ok (call : CallF) (fuel base : Nat) : LQ lp54 call fuel base 0 p54_0 := by
  refine loop_ok (kp := keep54) (hb := Eq.mpr (show _ = (And B3 B2) by kernel_rfl) ⟨q3, q2⟩) 18 [1, 3, 4] (r54_L0_R call fuel base) ?_ ?_ (fun _ _ _ => rfl)
  · intro vs m K
    unfold r54_L0_R
    split <;> rfl
  · intro n vs m K hl
    match vs, hl with
    | [x1, x3, x4], _ => show _ = _; kernel_rfl
theorem r54_eq (call : CallF) (fuel base : Nat) (x0 : Value) (m : M) : kbody E call keep54 (lp54 call fuel base) base Try.f54 [x0] m = r54 call fuel base x0 m := by
  kernel_rfl
noncomputable def rf54 : RF := fun call fuel base args m => match args with
  | [x0] => r54 call fuel base x0 m
  | _ => none
theorem rf54_ok : RFok E 54 rf54 := by
  show RFok' E 54 rf54
  refine ⟨Try.f54, (by kernel_rfl), fun call fuel base args m r _ h => ?_⟩
  unfold rf54 at h
  split at h
  · rw [← r54_eq] at h
    exact kbody_sound (c := c54) (by kernel_rfl) (Eq.mpr (show _ = (And True (And True (And (And True (LQ lp54 call fuel base 0 p54_0)) B2))) by kernel_rfl) ⟨trivial, ⟨trivial, ⟨⟨trivial, (r54_L0_ok call fuel base)⟩, q2⟩⟩⟩) h
  · simp at h
end Go.AM
namespace Go.AM
open Go Go.Proofs
noncomputable def r55_L2 (call : CallF) (fuel base : Nat) (kp : Value → M → Res2) (kr : Value → Value → M → Res2) (kx2 : Value → Value → Value → Value → Value → Value → M → Res2) (n : Nat) : Value → Value → Value → Value → Value → Value → Value → Value → Value → Value → M → Res2 :=
  Nat.rec (motive := fun _ => Value → Value → Value → Value → Value → Value → Value → Value → Value → Value → M → Res2) (fun _ _ _ _ _ _ _ _ _ _ _ => none)
    (fun _ ih x2 x4 x6 x7 x19 x20 x21 x32 x33 x34 m =>
      (k1 (mbin E .lss 3 x34 x33) fun u22 => (kb u22 (k1 (mindexAddr E.P 27 x32 x34) fun u23 => (k1 (xload E.P m 3 u23) fun u24 => (k1 (mbin E .lss 3 u24 (.int .i64 0)) fun u25 => (kb u25 (k1 (mbuild E.P 79 []) fun u26 => (ks (xstore E.P base m 79 x4 u26) fun m => (kr x4 (.bool false) m))) (k1 (xload E.P m 79 x6) fun u27 => (kc (call base 80 [u27, x7, x34] m) (fun u28 m => (k1 (mbin E .gtr 3 u24 u28) fun u29 => (kb u29 (k1 (mbuild E.P 79 []) fun u30 => (ks (xstore E.P base m 79 x4 u30) fun m => (kr x4 (.bool false) m))) (k1 (mfieldAddr E.P 79 x6 1) fun u31 => (k1 (mindexAddr E.P 77 u31 x7) fun u32 => (k1 (mindexAddr E.P 76 u32 x34) fun u33 => (ks (xstore E.P base m 3 u33 u24) fun m => (k1 (mbin E .add 3 x34 (.int .i64 1)) fun u34 => (ih x2 x4 x6 x7 x19 x20 x21 x32 x33 u34 m))))))))) (fun v m => kp v m))))))) (kx2 x2 x4 x6 x19 x20 x21 m)))) n
noncomputable def r55_L0 (call : CallF) (fuel base : Nat) (kp : Value → M → Res2) (kr : Value → Value → M → Res2) (kx0 : Value → Value → M → Res2) (n : Nat) : Value → Value → Value → Value → Value → Value → M → Res2 :=
  Nat.rec (motive := fun _ => Value → Value → Value → Value → Value → Value → M → Res2) (fun _ _ _ _ _ _ _ => none)
    (fun _ ih x2 x4 x6 x19 x20 x21 m =>
      (k1 (mbin E .lss 3 x21 x20) fun u13 => (kb u13 (k1 (mindexAddr E.P 33 x19 x21) fun u14 => (k1 (xload E.P m 27 u14) fun u15 => (k2 (vcall E.P base m .len [27] [u15]) fun u16 m => (k1 (mfieldAddr E.P 23 x2 1) fun u17 => (k1 (xload E.P m 3 u17) fun u18 => (k1 (mbin E .neq 3 u16 u18) fun u19 => (kb u19 (k1 (mbuild E.P 79 []) fun u20 => (ks (xstore E.P base m 79 x4 u20) fun m => (kr x4 (.bool false) m))) (k2 (vcall E.P base m .len [27] [u15]) fun u21 m => (r55_L2 call fuel base (fun v m => kp v m) (fun w35 w36 m => (kr w35 w36 m)) (fun w37 w38 w39 w40 w41 w42 m => (k1 (mbin E .add 3 w42 (.int .i64 1)) fun u43 => (ih w37 w38 w39 w40 w41 u43 m))) fuel x2 x4 x6 x21 x19 x20 x21 u15 u21 (.int .i64 0) m))))))))) (kx0 x4 x6 m)))) n
noncomputable def r55 (call : CallF) (fuel base : Nat) (x0 : Value) (x1 : Value) (m : M) : Res2 :=
  (k2 (xbox m x0) fun u1 m => (k2 (xalloc E.P m 79) fun u2 m => (k2 (vcall E.P base m .len [33] [x1]) fun u3 m => (k1 (mfieldAddr E.P 23 u1 0) fun u4 => (k1 (xload E.P m 3 u4) fun u5 => (k1 (mbin E .neq 3 u3 u5) fun u6 => (kb u6 (k1 (mbuild E.P 79 []) fun u7 => (ks (xstore E.P base m 79 u2 u7) fun m => (k0 (mload E.P m 79 u2) fun r_8 => (some (.ret (.tuple #[r_8, (.bool false)]), m))))) (k1 (xload E.P m 23 u1) fun u9 => (k1 (mbuild E.P 79 [(0, u9)]) fun u10 => (k2 (xalloc E.P m 79) fun u11 m => (ks (xstore E.P base m 79 u11 u10) fun m => (k2 (vcall E.P base m .len [33] [x1]) fun u12 m => (r55_L0 call fuel base (fun v m => some (.pan v, m)) (fun w44 w45 m => (k0 (mload E.P m 79 w44) fun r_46 => (some (.ret (.tuple #[r_46, w45]), m)))) (fun w47 w48 m => (k1 (xload E.P m 79 w48) fun u49 => (ks (xstore E.P base m 79 w47 u49) fun m => (k0 (mload E.P m 79 w47) fun r_50 => (some (.ret (.tuple #[r_50, (.bool true)]), m)))))) fuel u1 u2 u11 x1 u12 (.int .i64 0) m)))))))))))))
def keep55 : Keep := { region := fun i => ([[1, 2, 4], [1, 2, 4, 15], [4, 5], [1, 2, 4, 6], [2, 4, 6, 19, 20, 21], [2, 4, 6, 19, 20, 21, 22], [2, 4, 6, 7, 8, 19, 20, 21], [2, 4, 6, 7, 8, 19, 20, 21, 30], [4, 5], [2, 4, 6, 7, 19, 20, 21, 32, 33, 34], [2, 4, 6, 7, 19, 20, 21, 32, 33, 34, 35], [2, 4, 6, 7, 9, 10, 19, 20, 21, 32, 33, 34], [2, 4, 6, 7, 9, 10, 19, 20, 21, 32, 33, 34, 48], [4, 5], [2, 4, 6, 7, 19, 20, 21, 32, 33, 34], [2, 4, 6, 7, 19, 20, 21, 32, 33, 34], [2, 4, 6, 19, 20, 21], [4, 5]] : List (List Nat))[i]?, exit := fun i => ([[4, 6], [2, 4, 6, 19, 20, 21], [2, 4, 6, 19, 20, 21], [2, 4, 6, 7, 19, 20, 21, 32, 33, 34]] : List (List Nat))[i]?, ret := some [4, 5] }
noncomputable def r55_L2_R (call : CallF) (fuel base n : Nat) (vs : List Value) (m : M) (K : KT) : Res2 := match vs with
  | [x2, x4, x6, x7, x19, x20, x21, x32, x33, x34] => r55_L2 call fuel base (fun v m => K (.pan v) { n := 59, l := [] } m) (fun y4 y5 m => K .ret { n := 59, l := [(4, y4), (5, y5)] } m) (fun y2 y4 y6 y19 y20 y21 m => K (.exit 2) { n := 59, l := [(2, y2), (4, y4), (6, y6), (19, y19), (20, y20), (21, y21)] } m) n x2 x4 x6 x7 x19 x20 x21 x32 x33 x34 m
  | _ => none
noncomputable def r55_L0_R (call : CallF) (fuel base n : Nat) (vs : List Value) (m : M) (K : KT) : Res2 := match vs with
  | [x2, x4, x6, x19, x20, x21] => r55_L0 call fuel base (fun v m => K (.pan v) { n := 59, l := [] } m) (fun y4 y5 m => K .ret { n := 59, l := [(4, y4), (5, y5)] } m) (fun y4 y6 m => K (.exit 0) { n := 59, l := [(4, y4), (6, y6)] } m) n x2 x4 x6 x19 x20 x21 m
  | _ => none
noncomputable def lp55 (call : CallF) (fuel base : Nat) : Lp := lpsel [(2, fun T m K => kslots 59 [2, 4, 6, 7, 19, 20, 21, 32, 33, 34] T fun vs => r55_L2_R call fuel base fuel vs m K), (0, fun T m K => kslots 59 [2, 4, 6, 19, 20, 21] T fun vs => r55_L0_R call fuel base fuel vs m K)]
noncomputable def c55 : Code := Try.f55.body.getD .skip
noncomputable def p55_0 : Code := loopB (blockB (seqR (seqL (seqR (seqR (seqR c55))))))
noncomputable def p55_2 : Code := loopB (blockB (seqR (seqR (seqR (blockB (seqL (seqR (seqR (loopB (blockB (seqR (seqL (seqR (seqR (seqR c55)))))))))))))))
theorem r55_L2_ok (call : CallF) (fuel base : Nat) : LQ lp55 call fuel base 2 p55_2 := by
  refine loop_ok (kp := keep55) (hb := Eq.mpr (show _ = (And True (And B2 (And (And True (And D3 True)) True))) by kernel_rfl) ⟨trivial, ⟨q2, ⟨⟨trivial, ⟨e3, trivial⟩⟩, trivial⟩⟩⟩) 59 [2, 4, 6, 7, 19, 20, 21, 32, 33, 34] (r55_L2_R call fuel base) ?_ ?_ (fun _ _ _ => rfl)
  · intro vs m K
    unfold r55_L2_R
    split <;> rfl
  · intro n vs m K hl
    match vs, hl with
    | [x2, x4, x6, x7, x19, x20, x21, x32, x33, x34], _ => show _ = _; kernel_rfl
theorem r55_L0_ok (call : CallF) (fuel base : Nat) : LQ lp55 call fuel base 0 p55_0 := by
  refine loop_ok (kp := keep55) (hb := Eq.mpr (show _ = (And True (And B2 (And (And True (And D3 (And True (LQ lp55 call fuel base 2 p55_2)))) True))) by kernel_rfl) ⟨trivial, ⟨q2, ⟨⟨trivial, ⟨e3, ⟨trivial, (r55_L2_ok call fuel base)⟩⟩⟩, trivial⟩⟩⟩) 59 [2, 4, 6, 19, 20, 21] (r55_L0_R call fuel base) ?_ ?_ (fun _ _ _ => rfl)
  · intro vs m K
    unfold r55_L0_R
    split <;> rfl
  · intro n vs m K hl
    match vs, hl with
    | [x2, x4, x6, x19, x20, x21], _ => show _ = _; kernel_rfl
theorem r55_eq (call : CallF) (fuel base : Nat) (x0 : Value) (x1 : Value) (m : M) : kbody E call keep55 (lp55 call fuel base) base Try.f55 [x0, x1] m = r55 call fuel base x0 x1 m := by
  kernel_rfl
noncomputable def rf55 : RF := fun call fuel base args m => match args with
  | [x0, x1] => r55 call fuel base x0 x1 m
  | _ => none
theorem rf55_ok : RFok E 55 rf55 := by
  show RFok' E 55 rf55
  refine ⟨Try.f55, (by kernel_rfl), fun call fuel base args m r _ h => ?_⟩
  unfold rf55 at h
  split at h
  · rw [← r55_eq] at h
    exact kbody_sound (c := c55) (by kernel_rfl) (Eq.mpr (show _ = (And True (And D3 (And True (And (And True (LQ lp55 call fuel base 0 p55_0)) B2)))) by kernel_rfl) ⟨trivial, ⟨e3, ⟨trivial, ⟨⟨trivial, (r55_L0_ok call fuel base)⟩, q2⟩⟩⟩⟩) h
  · simp at h
end Go.AM
namespace Go.AM
open Go Go.Proofs
noncomputable def r56 (call : CallF) (fuel base : Nat) (x0 : Value) (x1 : Value) (m : M) : Res2 :=
  (k2 (xbox m x0) fun u1 m => (k2 (xalloc E.P m 79) fun u2 m => (k1 (xload E.P m 23 u1) fun u3 => (kc (call base 47 [u3] m) (fun u4 m => (k1 (mun .not u4) fun u5 => (kb u5 (k1 (mbuild E.P 79 []) fun u6 => (ks (xstore E.P base m 79 u2 u6) fun m => (k0 (mload E.P m 79 u2) fun r_7 => (some (.ret (.tuple #[r_7, (.int .i64 2)]), m))))) (k1 (xload E.P m 23 u1) fun u8 => (kc (call base 55 [u8, x1] m) (fun u9 m => (k1 (mextract 0 u9) fun u10 => (k1 (mextract 1 u9) fun u11 => (k2 (xalloc E.P m 79) fun u12 m => (ks (xstore E.P base m 79 u12 u10) fun m => (k1 (mun .not u11) fun u13 => (kb u13 (k1 (mbuild E.P 79 []) fun u14 => (ks (xstore E.P base m 79 u2 u14) fun m => (k0 (mload E.P m 79 u2) fun r_15 => (some (.ret (.tuple #[r_15, (.int .i64 2)]), m))))) (k1 (xload E.P m 79 u12) fun u16 => (ks (xstore E.P base m 79 u2 u16) fun m => (k0 (mload E.P m 79 u2) fun r_17 => (some (.ret (.tuple #[r_17, (.int .i64 0)]), m)))))))))))) (fun v m => some (.pan v, m))))))) (fun v m => some (.pan v, m))))))
def keep56 : Keep := { region := fun i => ([[1, 2, 4], [1, 2, 4, 10], [4, 5], [4, 6, 7], [4, 6, 19], [4, 5], [4, 5]] : List (List Nat))[i]?, exit := fun i => ([] : List (List Nat))[i]?, ret := some [4, 5] }
noncomputable def lp56 (call : CallF) (fuel base : Nat) : Lp := lpsel []
noncomputable def c56 : Code := Try.f56.body.getD .skip
theorem r56_eq (call : CallF) (fuel base : Nat) (x0 : Value) (x1 : Value) (m : M) : kbody E call keep56 (lp56 call fuel base) base Try.f56 [x0, x1] m = r56 call fuel base x0 x1 m := by
  kernel_rfl
noncomputable def rf56 : RF := fun call fuel base args m => match args with
  | [x0, x1] => r56 call fuel base x0 x1 m
  | _ => none
theorem rf56_ok : RFok E 56 rf56 := by
  show RFok' E 56 rf56
  refine ⟨Try.f56, (by kernel_rfl), fun call fuel base args m r _ h => ?_⟩
  unfold rf56 at h
  split at h
  · rw [← r56_eq] at h
    exact kbody_sound (c := c56) (by kernel_rfl) (Eq.mpr (show _ = (And True (And D3 (And True D5))) by kernel_rfl) ⟨trivial, ⟨e3, ⟨trivial, e5⟩⟩⟩) h
  · simp at h
end Go.AM
namespace Go.AM
open Go Go.Proofs
noncomputable def r57_L0 (call : CallF) (fuel base : Nat) (kp : Value → M → Res2) (kx0 : Value → M → Res2) (n : Nat) : Value → Value → Value → Value → Value → Value → Value → M → Res2 :=
  Nat.rec (motive := fun _ => Value → Value → Value → Value → Value → Value → Value → M → Res2) (fun _ _ _ _ _ _ _ _ => none)
    (fun _ ih x1 x3 x4 x5 x19 x20 x21 m =>
      (k1 (mbin E .lss 3 x21 x20) fun u16 => (kb u16 (k1 (mindexAddr E.P 104 x19 x21) fun u17 => (k1 (xload E.P m 76 u17) fun u18 => (k2 (xalloc E.P m 76) fun u19 m => (ks (xstore E.P base m 76 u19 u18) fun m => (k1 (xload E.P m 106 x3) fun u20 => (k1 (xload E.P m 76 x5) fun u21 => (k1 (mfieldAddr E.P 79 x1 0) fun u22 => (k1 (mfieldAddr E.P 23 u22 0) fun u23 => (k1 (xload E.P m 3 u23) fun u24 => (k1 (mbin E .sub 3 u24 (.int .i64 1)) fun u25 => (k1 (mbin E .sub 3 u25 x21) fun u26 => (kc (call base 83 [u20, u21, u26] m) (fun u27 m => (kr (mrange call base u27 968610 { n := 46, l := [(4, x4), (7, u19)] } m) (fun m => (k1 (xload E.P m 76 u19) fun u30 => (ks (xstore E.P base m 76 x5 u30) fun m => (k1 (mbin E .add 3 x21 (.int .i64 1)) fun u31 => (ih x1 x3 x4 x5 x19 x20 u31 m))))) (fun _ => none) (kxs [(2, fun m => (k1 (xload E.P m 76 u19) fun u28 => (ks (xstore E.P base m 76 x5 u28) fun m => (k1 (mbin E .add 3 x21 (.int .i64 1)) fun u29 => (ih x1 x3 x4 x5 x19 x20 u29 m)))))]))) (fun v m => kp v m))))))))))))) (kx0 x4 m)))) n
noncomputable def r57_Y0 (call : CallF) (fuel base y : Nat) (x4 : Value) (x7 : Value) (x35 : Value) (x36 : Value) (m : M) : Res2 :=
  (k2 (xalloc E.P m 76) fun u34 m => (ks (xstore E.P base m 76 u34 x35) fun m => (ks (mbusy m y) fun m => (k1 (xload E.P m 76 u34) fun u35 => (k1 (xload E.P m 76 x7) fun u36 => (k1 (mbin E .eql 76 u35 u36) fun u37 => (kb u37 (mfin m y (some (some (.exit 2)))) (k1 (xload E.P m 3 x4) fun u38 => (k1 (mbin E .add 3 u38 x36) fun u39 => (ks (xstore E.P base m 3 x4 u39) fun m => (mfin m y (some none))))))))))))
noncomputable def r57 (call : CallF) (fuel base : Nat) (x0 : Value) (m : M) : Res2 :=
  (k2 (xbox m x0) fun u1 m => (k1 (mfieldAddr E.P 79 u1 0) fun u2 => (k1 (xload E.P m 23 u2) fun u3 => (kc (call base 81 [u3] m) (fun u4 m => (k2 (xalloc E.P m 106) fun u5 m => (ks (xstore E.P base m 106 u5 u4) fun m => (k1 (xload E.P m 106 u5) fun u6 => (kc (call base 82 [u6] m) (fun u7 m => (k2 (xalloc E.P m 3) fun u8 m => (k2 (xalloc E.P m 76) fun u9 m => (ks (xstore E.P base m 3 u8 (.int .i64 0)) fun m => (ks (xstore E.P base m 76 u9 u7) fun m => (k1 (mfieldAddr E.P 79 u1 1) fun u10 => (k1 (mfieldAddr E.P 79 u1 0) fun u11 => (k1 (mfieldAddr E.P 23 u11 0) fun u12 => (k1 (xload E.P m 3 u12) fun u13 => (k1 (mslice E.P m 77 u10 none (some u13) none) fun u14 => (k2 (vcall E.P base m .len [104] [u14]) fun u15 m => (r57_L0 call fuel base (fun v m => some (.pan v, m)) (fun w32 m => (k1 (xload E.P m 3 w32) fun u33 => (fVal u33 fun v => some (.ret v, m)))) fuel u1 u5 u8 u9 u14 u15 (.int .i64 0) m)))))))))))) (fun v m => some (.pan v, m))))))) (fun v m => some (.pan v, m))))))
def keep57 : Keep := { region := fun i => ([[1], [1, 3], [1, 3, 4, 5], [1, 3, 4, 5, 19, 20, 21], [1, 3, 4, 5, 19, 20, 21, 22], [1, 3, 4, 5, 6, 7, 19, 20, 21], [1, 3, 4, 5, 7, 19, 20, 21, 34], [4, 7, 8, 36], [4, 7, 8, 9], [4, 9, 39], [], [1, 3, 4, 5, 19, 20, 21], [1, 3, 4, 5, 19, 20, 21], [2]] : List (List Nat))[i]?, exit := fun i => ([[4], [1, 3, 4, 5, 19, 20, 21], [1, 3, 4, 5, 7, 19, 20, 21], []] : List (List Nat))[i]?, ret := some [2] }
noncomputable def r57_L0_R (call : CallF) (fuel base n : Nat) (vs : List Value) (m : M) (K : KT) : Res2 := match vs with
  | [x1, x3, x4, x5, x19, x20, x21] => r57_L0 call fuel base (fun v m => K (.pan v) { n := 46, l := [] } m) (fun y4 m => K (.exit 0) { n := 46, l := [(4, y4)] } m) n x1 x3 x4 x5 x19 x20 x21 m
  | _ => none
noncomputable def lp57 (call : CallF) (fuel base : Nat) : Lp := lpsel [(0, fun T m K => kslots 46 [1, 3, 4, 5, 19, 20, 21] T fun vs => r57_L0_R call fuel base fuel vs m K)]
noncomputable def c57 : Code := Try.f57.body.getD .skip
noncomputable def p57_0 : Code := loopB (blockB (seqR (seqL (seqR (seqR (seqR c57))))))
theorem r57_L0_ok (call : CallF) (fuel base : Nat) : LQ lp57 call fuel base 0 p57_0 := by
  refine loop_ok (kp := keep57) (hb := Eq.mpr (show _ = (And True (And B2 (And D3 True))) by kernel_rfl) ⟨trivial, ⟨q2, ⟨e3, trivial⟩⟩⟩) 46 [1, 3, 4, 5, 19, 20, 21] (r57_L0_R call fuel base) ?_ ?_ (fun _ _ _ => rfl)
  · intro vs m K
    unfold r57_L0_R
    split <;> rfl
  · intro n vs m K hl
    match vs, hl with
    | [x1, x3, x4, x5, x19, x20, x21], _ => show _ = _; kernel_rfl
theorem r57_eq (call : CallF) (fuel base : Nat) (x0 : Value) (m : M) : kbody E call keep57 (lp57 call fuel base) base Try.f57 [x0] m = r57 call fuel base x0 m := by
  kernel_rfl
noncomputable def rf57 : RF := fun call fuel base args m => match args with
  | [x0] => r57 call fuel base x0 m
  | _ => none
theorem rf57_ok : RFok E 57 rf57 := by
  show RFok' E 57 rf57
  refine ⟨Try.f57, (by kernel_rfl), fun call fuel base args m r _ h => ?_⟩
  unfold rf57 at h
  split at h
  · rw [← r57_eq] at h
    exact kbody_sound (c := c57) (by kernel_rfl) (Eq.mpr (show _ = (And True (And True (And True (And (And True (LQ lp57 call fuel base 0 p57_0)) B2)))) by kernel_rfl) ⟨trivial, ⟨trivial, ⟨trivial, ⟨⟨trivial, (r57_L0_ok call fuel base)⟩, q2⟩⟩⟩⟩) h
  · simp at h
noncomputable def site57_0 : Site := ⟨968610, [35, 36], rangeA (blockB (seqR (seqL (seqR (blockB (seqL (seqR (seqR (loopB (blockB (seqR (seqL (seqR (seqR (seqR c57))))))))))))))), rangeB (blockB (seqR (seqL (seqR (blockB (seqL (seqR (seqR (loopB (blockB (seqR (seqL (seqR (seqR (seqR c57)))))))))))))))⟩
theorem site57_0_g : gsite 968610 = some site57_0 := by kernel_rfl
theorem r57_Y0_eq (call : CallF) (fuel base y : Nat) (x4 : Value) (x7 : Value) (x35 : Value) (x36 : Value) (m : M) : kround E call keep57 (lp57 call fuel base) base y site57_0 { n := 46, l := [(4, x4), (7, x7)] } [x35, x36] m = r57_Y0 call fuel base y x4 x7 x35 x36 m := by
  kernel_rfl
noncomputable def r57_Y0_R (call : CallF) (fuel base y : Nat) (xs vs : List Value) (m : M) : Res2 := match xs, vs with
  | [x4, x7], [x35, x36] => r57_Y0 call fuel base y x4 x7 x35 x36 m
  | _, _ => none
noncomputable def w0 : RYs := fun call fuel base y T vs m => kslots 46 [4, 7] T fun xs => r57_Y0_R call fuel base y xs vs m
theorem r57_Y0_lA (call : CallF) (fuel base : Nat) : LoopsOk E call (lp57 call fuel base) fuel base 0 site57_0.assign = (And True True) := by kernel_rfl
theorem r57_Y0_lB (call : CallF) (fuel base : Nat) : LoopsOk E call (lp57 call fuel base) fuel base 0 site57_0.body = (And (And True (And True True)) True) := by kernel_rfl
theorem y57_0_ok : RYsOk E 968610 w0 := by
  intro call fuel base y T vs m r lr hC hby hm hst hk hT h
  unfold w0 at h
  obtain ⟨xs, hl, hsub, h⟩ := kslots_some h
  unfold r57_Y0_R at h
  split at h
  · rw [← r57_Y0_eq] at h
    exact kround_sound (Eq.mpr (r57_Y0_lA call fuel base) (And.intro trivial trivial)) (Eq.mpr (r57_Y0_lB call fuel base) (And.intro (And.intro trivial (And.intro trivial trivial)) trivial)) hby hm hst (by rw [hk]; exact site57_0_g) rfl (hT ▸ hsub) h
  · simp at h
end Go.AM
namespace Go.AM
open Go Go.Proofs
noncomputable def r60_L0 (call : CallF) (fuel base : Nat) (kx0 : Value → M → Res2) (n : Nat) : Value → Value → Value → Value → M → Res2 :=
  Nat.rec (motive := fun _ => Value → Value → Value → Value → M → Res2) (fun _ _ _ _ _ => none)
    (fun _ ih x1 x3 x10 x11 m =>
      (k1 (mbin E .lss 3 x11 x10) fun u7 => (kb u7 (k1 (mfieldAddr E.P 79 x1 1) fun u8 => (k1 (mindexAddr E.P 77 u8 x11) fun u9 => (k1 (mfieldAddr E.P 79 x1 0) fun u10 => (k1 (mfieldAddr E.P 23 u10 1) fun u11 => (k1 (xload E.P m 3 u11) fun u12 => (k1 (mslice E.P m 76 u9 none (some u12) none) fun u13 => (kc (kB m (call m.length 84 [u13] m)) (fun u14 m => (k1 (mindexAddr E.P 33 x3 x11) fun u15 => (ks (xstore E.P base m 27 u15 u14) fun m => (k1 (mbin E .add 3 x11 (.int .i64 1)) fun u16 => (ih x1 x3 x10 u16 m))))) (fun _ _ => none)))))))) (kx0 x3 m)))) n
noncomputable def r60 (call : CallF) (fuel base : Nat) (x0 : Value) (m : M) : Res2 :=
  (k2 (xbox m x0) fun u1 m => (k1 (mfieldAddr E.P 79 u1 0) fun u2 => (k1 (mfieldAddr E.P 23 u2 0) fun u3 => (k1 (xload E.P m 3 u3) fun u4 => (k2 (xmakeSlice E.P m 33 u4 u4) fun u5 m => (k2 (vcall E.P base m .len [33] [u5]) fun u6 m => (r60_L0 call fuel base (fun w17 m => (fVal w17 fun v => some (.ret v, m))) fuel u1 u5 u6 (.int .i64 0) m)))))))
def keep60 : Keep := { region := fun i => ([[1], [1, 3], [1, 3, 10, 11], [1, 3, 10, 11, 12], [1, 3, 4, 10, 11], [1, 3, 10, 11], [1, 3, 10, 11], [2]] : List (List Nat))[i]?, exit := fun i => ([[3], [1, 3, 10, 11]] : List (List Nat))[i]?, ret := some [2] }
noncomputable def r60_L0_R (call : CallF) (fuel base n : Nat) (vs : List Value) (m : M) (K : KT) : Res2 := match vs with
  | [x1, x3, x10, x11] => r60_L0 call fuel base (fun y3 m => K (.exit 0) { n := 27, l := [(3, y3)] } m) n x1 x3 x10 x11 m
  | _ => none
noncomputable def lp60 (call : CallF) (fuel base : Nat) : Lp := lpsel [(0, fun T m K => kslots 27 [1, 3, 10, 11] T fun vs => r60_L0_R call fuel base fuel vs m K)]
noncomputable def c60 : Code := Try.f60.body.getD .skip
noncomputable def p60_0 : Code := loopB (blockB (seqR (seqL (seqR (seqR c60)))))
theorem r60_L0_ok (call : CallF) (fuel base : Nat) : LQ lp60 call fuel base 0 p60_0 := by
  refine loop_ok (kp := keep60) (hb := Eq.mpr (show _ = (And True (And B2 D2)) by kernel_rfl) ⟨trivial, ⟨q2, e2⟩⟩) 27 [1, 3, 10, 11] (r60_L0_R call fuel base) ?_ ?_ (fun _ _ _ => rfl)
  · intro vs m K
    unfold r60_L0_R
    split <;> rfl
  · intro n vs m K hl
    match vs, hl with
    | [x1, x3, x10, x11], _ => show _ = _; kernel_rfl
theorem r60_eq (call : CallF) (fuel base : Nat) (x0 : Value) (m : M) : kbody E call keep60 (lp60 call fuel base) base Try.f60 [x0] m = r60 call fuel base x0 m := by
  kernel_rfl
noncomputable def rf60 : RF := fun call fuel base args m => match args with
  | [x0] => r60 call fuel base x0 m
  | _ => none
theorem rf60_ok : RFok E 60 rf60 := by
  show RFok' E 60 rf60
  refine ⟨Try.f60, (by kernel_rfl), fun call fuel base args m r _ h => ?_⟩
  unfold rf60 at h
  split at h
  · rw [← r60_eq] at h
    exact kbody_sound (c := c60) (by kernel_rfl) (Eq.mpr (show _ = (And True (And True (And (And True (LQ lp60 call fuel base 0 p60_0)) B2))) by kernel_rfl) ⟨trivial, ⟨trivial, ⟨⟨trivial, (r60_L0_ok call fuel base)⟩, q2⟩⟩⟩) h
  · simp at h
end Go.AM
namespace Go.AM
open Go Go.Proofs
noncomputable def r61 (call : CallF) (fuel base : Nat) (x0 : Value) (x1 : Value) (x2 : Value) (m : M) : Res2 :=
  (k2 (xbox m x0) fun u1 m => (k1 (xload E.P m 23 u1) fun u2 => (kc (call base 56 [u2, x1] m) (fun u3 m => (k1 (mextract 0 u3) fun u4 => (k1 (mextract 1 u3) fun u5 => (k2 (xalloc E.P m 79) fun u6 m => (ks (xstore E.P base m 79 u6 u4) fun m => (k1 (mbin E .neq 24 u5 (.int .i64 0)) fun u7 => (kb u7 (some (.ret (.tuple #[(.slice none 0 0), u5]), m)) (k1 (xload E.P m 79 u6) fun u8 => (kc (kv call base x2 [u8] m) (fun u9 m => (kc (call base 60 [u9] m) (fun u10 m => (some (.ret (.tuple #[u10, (.int .i64 0)]), m))) (fun v m => some (.pan v, m)))) (fun v m => some (.pan v, m))))))))))) (fun v m => some (.pan v, m)))))
def keep61 : Keep := { region := fun i => ([[1, 2, 3], [2, 8, 9], [2, 8, 9, 17], [6, 7], [6, 7]] : List (List Nat))[i]?, exit := fun i => ([] : List (List Nat))[i]?, ret := some [6, 7] }
noncomputable def lp61 (call : CallF) (fuel base : Nat) : Lp := lpsel []
noncomputable def c61 : Code := Try.f61.body.getD .skip
theorem r61_eq (call : CallF) (fuel base : Nat) (x0 : Value) (x1 : Value) (x2 : Value) (m : M) : kbody E call keep61 (lp61 call fuel base) base Try.f61 [x0, x1, x2] m = r61 call fuel base x0 x1 x2 m := by
  kernel_rfl
noncomputable def rf61 : RF := fun call fuel base args m => match args with
  | [x0, x1, x2] => r61 call fuel base x0 x1 x2 m
  | _ => none
theorem rf61_ok : RFok E 61 rf61 := by
  show RFok' E 61 rf61
  refine ⟨Try.f61, (by kernel_rfl), fun call fuel base args m r _ h => ?_⟩
  unfold rf61 at h
  split at h
  · rw [← r61_eq] at h
    exact kbody_sound (c := c61) (by kernel_rfl) (Eq.mpr (show _ = (And True (And True D5)) by kernel_rfl) ⟨trivial, ⟨trivial, e5⟩⟩) h
  · simp at h
end Go.AM
namespace Go.AM
open Go Go.Proofs
noncomputable def r62 (call : CallF) (fuel base : Nat) (x0 : Value) (m : M) : Res2 :=
  (k2 (xbox m x0) fun u1 m => (k2 (xalloc E.P m 79) fun u2 m => (k1 (mfieldAddr E.P 79 u1 0) fun u3 => (k1 (xload E.P m 23 u3) fun u4 => (k2 (xalloc E.P m 23) fun u5 m => (ks (xstore E.P base m 23 u5 u4) fun m => (k1 (xload E.P m 23 u5) fun u6 => (kc (call base 85 [u6, (.func (.func 86) #[] #[u5, u1])] m) (fun u7 m => (ks (xstore E.P base m 79 u2 u7) fun m => (k0 (mload E.P m 79 u2) fun r_8 => (fVal r_8 fun v => some (.ret v, m))))) (fun v m => some (.pan v, m))))))))))
def keep62 : Keep := { region := fun i => ([[1, 2], [1, 2, 3], [2]] : List (List Nat))[i]?, exit := fun i => ([] : List (List Nat))[i]?, ret := some [2] }
noncomputable def lp62 (call : CallF) (fuel base : Nat) : Lp := lpsel []
noncomputable def c62 : Code := Try.f62.body.getD .skip
theorem r62_eq (call : CallF) (fuel base : Nat) (x0 : Value) (m : M) : kbody E call keep62 (lp62 call fuel base) base Try.f62 [x0] m = r62 call fuel base x0 m := by
  kernel_rfl
noncomputable def rf62 : RF := fun call fuel base args m => match args with
  | [x0] => r62 call fuel base x0 m
  | _ => none
theorem rf62_ok : RFok E 62 rf62 := by
  show RFok' E 62 rf62
  refine ⟨Try.f62, (by kernel_rfl), fun call fuel base args m r _ h => ?_⟩
  unfold rf62 at h
  split at h
  · rw [← r62_eq] at h
    exact kbody_sound (c := c62) (by kernel_rfl) (Eq.mpr (show _ = B4 by kernel_rfl) q4) h
  · simp at h
end Go.AM
namespace Go.AM
open Go Go.Proofs
noncomputable def r63 (call : CallF) (fuel base : Nat) (x0 : Value) (m : M) : Res2 :=
  (k2 (xbox m x0) fun u1 m => (k2 (xalloc E.P m 79) fun u2 m => (k1 (mfieldAddr E.P 79 u1 0) fun u3 => (k1 (xload E.P m 23 u3) fun u4 => (k2 (xalloc E.P m 23) fun u5 m => (ks (xstore E.P base m 23 u5 u4) fun m => (k1 (mfieldAddr E.P 23 u5 1) fun u6 => (k1 (xload E.P m 3 u6) fun u7 => (k1 (mfieldAddr E.P 23 u5 0) fun u8 => (k1 (xload E.P m 3 u8) fun u9 => (k1 (mfieldAddr E.P 23 u5 2) fun u10 => (k1 (xload E.P m 3 u10) fun u11 => (k1 (mbuild E.P 23 [(0, u7), (1, u9), (2, u11)]) fun u12 => (kc (call base 85 [u12, (.func (.func 87) #[] #[u1])] m) (fun u13 m => (ks (xstore E.P base m 79 u2 u13) fun m => (k0 (mload E.P m 79 u2) fun r_14 => (fVal r_14 fun v => some (.ret v, m))))) (fun v m => some (.pan v, m))))))))))))))))
def keep63 : Keep := { region := fun i => ([[1, 2], [1, 2, 3], [2]] : List (List Nat))[i]?, exit := fun i => ([] : List (List Nat))[i]?, ret := some [2] }
noncomputable def lp63 (call : CallF) (fuel base : Nat) : Lp := lpsel []
noncomputable def c63 : Code := Try.f63.body.getD .skip
theorem r63_eq (call : CallF) (fuel base : Nat) (x0 : Value) (m : M) : kbody E call keep63 (lp63 call fuel base) base Try.f63 [x0] m = r63 call fuel base x0 m := by
  kernel_rfl
noncomputable def rf63 : RF := fun call fuel base args m => match args with
  | [x0] => r63 call fuel base x0 m
  | _ => none
theorem rf63_ok : RFok E 63 rf63 := by
  show RFok' E 63 rf63
  refine ⟨Try.f63, (by kernel_rfl), fun call fuel base args m r _ h => ?_⟩
  unfold rf63 at h
  split at h
  · rw [← r63_eq] at h
    exact kbody_sound (c := c63) (by kernel_rfl) (Eq.mpr (show _ = B4 by kernel_rfl) q4) h
  · simp at h
end Go.AM
namespace Go.AM
open Go Go.Proofs
noncomputable def r64 (call : CallF) (fuel base : Nat) (x0 : Value) (m : M) : Res2 :=
  (k2 (xbox m x0) fun u1 m => (k2 (xalloc E.P m 79) fun u2 m => (k1 (mfieldAddr E.P 79 u1 0) fun u3 => (k1 (xload E.P m 23 u3) fun u4 => (k2 (xalloc E.P m 23) fun u5 m => (ks (xstore E.P base m 23 u5 u4) fun m => (k1 (mfieldAddr E.P 23 u5 2) fun u6 => (k1 (xload E.P m 3 u6) fun u7 => (k1 (mfieldAddr E.P 23 u5 0) fun u8 => (k1 (xload E.P m 3 u8) fun u9 => (k1 (mfieldAddr E.P 23 u5 1) fun u10 => (k1 (xload E.P m 3 u10) fun u11 => (k1 (mbuild E.P 23 [(0, u7), (1, u9), (2, u11)]) fun u12 => (kc (call base 85 [u12, (.func (.func 88) #[] #[u1])] m) (fun u13 m => (ks (xstore E.P base m 79 u2 u13) fun m => (k0 (mload E.P m 79 u2) fun r_14 => (fVal r_14 fun v => some (.ret v, m))))) (fun v m => some (.pan v, m))))))))))))))))
def keep64 : Keep := { region := fun i => ([[1, 2], [1, 2, 3], [2]] : List (List Nat))[i]?, exit := fun i => ([] : List (List Nat))[i]?, ret := some [2] }
noncomputable def lp64 (call : CallF) (fuel base : Nat) : Lp := lpsel []
noncomputable def c64 : Code := Try.f64.body.getD .skip
theorem r64_eq (call : CallF) (fuel base : Nat) (x0 : Value) (m : M) : kbody E call keep64 (lp64 call fuel base) base Try.f64 [x0] m = r64 call fuel base x0 m := by
  kernel_rfl
noncomputable def rf64 : RF := fun call fuel base args m => match args with
  | [x0] => r64 call fuel base x0 m
  | _ => none
theorem rf64_ok : RFok E 64 rf64 := by
  show RFok' E 64 rf64
  refine ⟨Try.f64, (by kernel_rfl), fun call fuel base args m r _ h => ?_⟩
  unfold rf64 at h
  split at h
  · rw [← r64_eq] at h
    exact kbody_sound (c := c64) (by kernel_rfl) (Eq.mpr (show _ = B4 by kernel_rfl) q4) h
  · simp at h
end Go.AM
namespace Go.AM
open Go Go.Proofs
noncomputable def r65_L2 (call : CallF) (fuel base : Nat) (kx2 : Value → Value → Value → Value → Value → M → Res2) (n : Nat) : Value → Value → Value → Value → Value → Value → Value → Value → M → Res2 :=
  Nat.rec (motive := fun _ => Value → Value → Value → Value → Value → Value → Value → Value → M → Res2) (fun _ _ _ _ _ _ _ _ _ => none)
    (fun _ ih x1 x4 x5 x6 x11 x12 x17 x18 m =>
      (k1 (mbin E .lss 3 x18 x17) fun u9 => (kb u9 (k1 (mbuild E.P 65 [(0, x18), (1, x6)]) fun u10 => (k2 (xalloc E.P m 65) fun u11 m => (ks (xstore E.P base m 65 u11 u10) fun m => (k1 (mfieldAddr E.P 79 x1 1) fun u12 => (k1 (mindexAddr E.P 77 u12 x6) fun u13 => (k1 (mindexAddr E.P 76 u13 x18) fun u14 => (k1 (xload E.P m 3 u14) fun u15 => (k1 (xload E.P m 79 x1) fun u16 => (kc (kB m (call m.length 80 [u16, x6, x18] m)) (fun u17 m => (k1 (mbin E .lss 3 u15 u17) fun u18 => (kb u18 (k1 (xload E.P m 65 u11) fun u19 => (k2 (xbuildSlice E.P m 44 1 [(0, u19)]) fun u20 m => (k2 (vcall E.P base m .append [44, 44] [x4, u20]) fun u21 m => (k1 (mfieldAddr E.P 79 x1 1) fun u22 => (k1 (mindexAddr E.P 77 u22 x6) fun u23 => (k1 (mindexAddr E.P 76 u23 x18) fun u24 => (k1 (xload E.P m 3 u24) fun u25 => (k1 (xload E.P m 79 x1) fun u26 => (kc (kB m (call m.length 90 [u26, x6, x18] m)) (fun u27 m => (k1 (mbin E .gtr 3 u25 u27) fun u28 => (kb u28 (k1 (xload E.P m 65 u11) fun u29 => (k2 (xbuildSlice E.P m 44 1 [(0, u29)]) fun u30 m => (k2 (vcall E.P base m .append [44, 44] [x5, u30]) fun u31 m => (k1 (mbin E .add 3 x18 (.int .i64 1)) fun u32 => (ih x1 u21 u31 x6 x11 x12 x17 u32 m))))) (k1 (mbin E .add 3 x18 (.int .i64 1)) fun u33 => (ih x1 u21 x5 x6 x11 x12 x17 u33 m))))) (fun _ _ => none)))))))))) (k1 (mfieldAddr E.P 79 x1 1) fun u34 => (k1 (mindexAddr E.P 77 u34 x6) fun u35 => (k1 (mindexAddr E.P 76 u35 x18) fun u36 => (k1 (xload E.P m 3 u36) fun u37 => (k1 (xload E.P m 79 x1) fun u38 => (kc (kB m (call m.length 90 [u38, x6, x18] m)) (fun u39 m => (k1 (mbin E .gtr 3 u37 u39) fun u40 => (kb u40 (k1 (xload E.P m 65 u11) fun u41 => (k2 (xbuildSlice E.P m 44 1 [(0, u41)]) fun u42 m => (k2 (vcall E.P base m .append [44, 44] [x5, u42]) fun u43 m => (k1 (mbin E .add 3 x18 (.int .i64 1)) fun u44 => (ih x1 x4 u43 x6 x11 x12 x17 u44 m))))) (k1 (mbin E .add 3 x18 (.int .i64 1)) fun u45 => (ih x1 x4 x5 x6 x11 x12 x17 u45 m))))) (fun _ _ => none)))))))))) (fun _ _ => none)))))))))) (kx2 x1 x4 x5 x11 x12 m)))) n
noncomputable def r65_L0 (call : CallF) (fuel base : Nat) (kx0 : Value → Value → M → Res2) (n : Nat) : Value → Value → Value → Value → Value → M → Res2 :=
  Nat.rec (motive := fun _ => Value → Value → Value → Value → Value → M → Res2) (fun _ _ _ _ _ _ => none)
    (fun _ ih x1 x4 x5 x11 x12 m =>
      (k1 (mbin E .lss 3 x12 x11) fun u5 => (kb u5 (k1 (mfieldAddr E.P 79 x1 0) fun u6 => (k1 (mfieldAddr E.P 23 u6 1) fun u7 => (k1 (xload E.P m 3 u7) fun u8 => (r65_L2 call fuel base (fun w46 w47 w48 w49 w50 m => (k1 (mbin E .add 3 w50 (.int .i64 1)) fun u51 => (ih w46 w47 w48 w49 u51 m))) fuel x1 x4 x5 x12 x11 x12 u8 (.int .i64 0) m)))) (kx0 x4 x5 m)))) n
noncomputable def r65 (call : CallF) (fuel base : Nat) (x0 : Value) (m : M) : Res2 :=
  (k2 (xbox m x0) fun u1 m => (k1 (mfieldAddr E.P 79 u1 0) fun u2 => (k1 (mfieldAddr E.P 23 u2 0) fun u3 => (k1 (xload E.P m 3 u3) fun u4 => (r65_L0 call fuel base (fun w52 w53 m => (some (.ret (.tuple #[w52, w53]), m))) fuel u1 (.slice none 0 0) (.slice none 0 0) u4 (.int .i64 0) m)))))
def keep65 : Keep := { region := fun i => ([[1], [1, 4, 5], [1, 4, 5, 11, 12], [1, 4, 5, 11, 12, 13], [1, 4, 5, 6, 11, 12], [1, 4, 5, 6, 11, 12, 17, 18], [1, 4, 5, 6, 11, 12, 17, 18, 19], [1, 4, 5, 6, 7, 11, 12, 17, 18], [1, 4, 5, 6, 7, 8, 11, 12, 17, 18], [1, 4, 5, 6, 7, 8, 11, 12, 17, 18, 34], [1, 4, 5, 6, 7, 8, 11, 12, 17, 18], [1, 4, 5, 6, 8, 11, 12, 17, 18, 49], [1, 4, 5, 6, 11, 12, 17, 18], [1, 4, 5, 6, 11, 12, 17, 18], [1, 4, 5, 11, 12], [2, 3]] : List (List Nat))[i]?, exit := fun i => ([[4, 5], [1, 4, 5, 11, 12], [1, 4, 5, 11, 12], [1, 4, 5, 6, 11, 12, 17, 18]] : List (List Nat))[i]?, ret := some [2, 3] }
noncomputable def r65_L2_R (call : CallF) (fuel base n : Nat) (vs : List Value) (m : M) (K : KT) : Res2 := match vs with
  | [x1, x4, x5, x6, x11, x12, x17, x18] => r65_L2 call fuel base (fun y1 y4 y5 y11 y12 m => K (.exit 2) { n := 58, l := [(1, y1), (4, y4), (5, y5), (11, y11), (12, y12)] } m) n x1 x4 x5 x6 x11 x12 x17 x18 m
  | _ => none
noncomputable def r65_L0_R (call : CallF) (fuel base n : Nat) (vs : List Value) (m : M) (K : KT) : Res2 := match vs with
  | [x1, x4, x5, x11, x12] => r65_L0 call fuel base (fun y4 y5 m => K (.exit 0) { n := 58, l := [(4, y4), (5, y5)] } m) n x1 x4 x5 x11 x12 m
  | _ => none
noncomputable def lp65 (call : CallF) (fuel base : Nat) : Lp := lpsel [(2, fun T m K => kslots 58 [1, 4, 5, 6, 11, 12, 17, 18] T fun vs => r65_L2_R call fuel base fuel vs m K), (0, fun T m K => kslots 58 [1, 4, 5, 11, 12] T fun vs => r65_L0_R call fuel base fuel vs m K)]
noncomputable def c65 : Code := Try.f65.body.getD .skip
noncomputable def p65_0 : Code := loopB (blockB (seqR (seqL (seqR (seqR c65)))))
noncomputable def p65_2 : Code := loopB (blockB (seqR (seqR (blockB (seqL (seqR (seqR (loopB (blockB (seqR (seqL (seqR (seqR c65)))))))))))))
theorem r65_L2_ok (call : CallF) (fuel base : Nat) : LQ lp65 call fuel base 2 p65_2 := by
  refine loop_ok (kp := keep65) (hb := Eq.mpr (show _ = (And True (And B2 (And (And True (And True (And B3 B3))) True))) by kernel_rfl) ⟨trivial, ⟨q2, ⟨⟨trivial, ⟨trivial, ⟨q3, q3⟩⟩⟩, trivial⟩⟩⟩) 58 [1, 4, 5, 6, 11, 12, 17, 18] (r65_L2_R call fuel base) ?_ ?_ (fun _ _ _ => rfl)
  · intro vs m K
    unfold r65_L2_R
    split <;> rfl
  · intro n vs m K hl
    match vs, hl with
    | [x1, x4, x5, x6, x11, x12, x17, x18], _ => show _ = _; kernel_rfl
theorem r65_L0_ok (call : CallF) (fuel base : Nat) : LQ lp65 call fuel base 0 p65_0 := by
  refine loop_ok (kp := keep65) (hb := Eq.mpr (show _ = (And True (And B2 (And (And True (And True (LQ lp65 call fuel base 2 p65_2))) True))) by kernel_rfl) ⟨trivial, ⟨q2, ⟨⟨trivial, ⟨trivial, (r65_L2_ok call fuel base)⟩⟩, trivial⟩⟩⟩) 58 [1, 4, 5, 11, 12] (r65_L0_R call fuel base) ?_ ?_ (fun _ _ _ => rfl)
  · intro vs m K
    unfold r65_L0_R
    split <;> rfl
  · intro n vs m K hl
    match vs, hl with
    | [x1, x4, x5, x11, x12], _ => show _ = _; kernel_rfl
theorem r65_eq (call : CallF) (fuel base : Nat) (x0 : Value) (m : M) : kbody E call keep65 (lp65 call fuel base) base Try.f65 [x0] m = r65 call fuel base x0 m := by
  kernel_rfl
noncomputable def rf65 : RF := fun call fuel base args m => match args with
  | [x0] => r65 call fuel base x0 m
  | _ => none
theorem rf65_ok : RFok E 65 rf65 := by
  show RFok' E 65 rf65
  refine ⟨Try.f65, (by kernel_rfl), fun call fuel base args m r _ h => ?_⟩
  unfold rf65 at h
  split at h
  · rw [← r65_eq] at h
    exact kbody_sound (c := c65) (by kernel_rfl) (Eq.mpr (show _ = (And True (And True (And (And True (LQ lp65 call fuel base 0 p65_0)) B2))) by kernel_rfl) ⟨trivial, ⟨trivial, ⟨⟨trivial, (r65_L0_ok call fuel base)⟩, q2⟩⟩⟩) h
  · simp at h
end Go.AM
