import Derived.KernelRfl
import Derived.Laws.BytesArg
import Derived.Laws.StructEq
import Derived.RangeFuncLeaves
import Derived.RangeFuncRecord
import Derived.Test.YtnefldkiipdckaaProg
import Derived.Test.YtnefldkiipdckaaRows
import Derived.WalkKit
import Derived.Test.YtnefldkiipdckaaAmB
import Derived.Test.YtnefldkiipdckaaAmG
import Derived.Test.YtnefldkiipdckaaAmModel
import Derived.Test.YtnefldkiipdckaaAmRel
import Derived.Test.YtnefldkiipdckaaAmOps6
import Derived.Test.YtnefldkiipdckaaAmCode
import Derived.Test.YtnefldkiipdckaaAmDraw5
import Derived.Test.YtnefldkiipdckaaAmEq
set_option linter.unusedVariables false
set_option linter.unusedSimpArgs false
set_option linter.unusedSectionVars false
namespace Go.AM
open Go Go.Proofs
noncomputable def E : Env where
 P := Try.prog
 pure := fun f => [14,17,28,30,34,35,36,37,38,39,40,41,42,44,45,48,49,50,51,57,58,59,60,61,63,65,66,68,69,76,79,84,85,86,87,88,89,90,92,93,99,103,104,108,109,111,130,131].contains f
 eqt := fun t => if t == 144 then [1, 3, 5, 7, 9] else []
 live := fun _ _ => none
theorem u3 : Try.prog.underlying 3 = some (.int .i64) := by kernel_rfl
theorem u4 : Try.prog.underlying 4 = some .bool := by kernel_rfl
theorem peq_bool {P : Program} {t : TypeId} (h : P.underlying t = some .bool) (d : Nat) : PEq P (d + 1) t [1] := by
 intro off xs ys r w hc
 simp only [List.map_cons, List.map_nil, ceqs] at hc
 rw [show (1 + 2 * off) / 2 = off by omega, show (1 + 2 * off) % 2 = 1 by omega] at hc
 split at hc
 ·rename_i x y hx hy
  have hx' : xs[off]? = some x := by simpa using hx
  have hy' : ys[off]? = some y := by simpa using hy
  have hp : ∀ zs : Array Value, ∀ z, zs[off]? = some z → (part t zs off).run P w = .ok z w := by
   intro zs z hz
   simp [part, isAgg, run_underlying h, hz]
  refine ⟨x, y, hp _ _ hx', hp _ _ hy', ?_⟩
  cases hb : ceq 1 x y with
  | none => rw [hb] at hc; simp at hc
  | some b =>
   have hr : r = b := by rw [hb] at hc; cases b <;> simp at hc <;> exact hc
   subst hr
   unfold ceq at hb
   split at hb
   ·exact absurd ‹(1 : Nat) = 0› (by decide)
   ·simp only [Option.some.injEq] at hb
    simp [Op.equalIn, run_underlying h, ← hb]
   ·simp at hb
 ·simp at hc
theorem ae144 (d : Nat) : AEq Try.prog (d + 2) 144 [1, 3, 5, 7, 9] := aeq_array (len := 5) (elem := 4) (n := 1) (is := [1]) (by kernel_rfl) (by kernel_rfl) (peq_bool u4 d)
theorem nogAll : (Try.prog.funcs.toList.all fun fn => !(fn.body.isSome && fn.name == "runtime.NumGoroutine")) = true := by kernel_rfl
theorem keysNodup : (siteTab.map (·.key)).Nodup := by
 have h : siteTab.map (·.key) = [] := by kernel_rfl
 rw [h]; exact List.nodup_nil
theorem sitesAll : (Try.prog.funcs.toList.zipIdx.all fun p => siteFns.contains p.2 || ((p.1.body.map fun c => (sitesOf c).isEmpty).getD true)) = true := by kernel_rfl
theorem site_of {f : Nat} (hf : f ∈ siteFns) {s : Site} (hs : s ∈ sitesOf (fcode f)) : gsite s.key = some s :=
 findSite_of keysNodup (List.mem_flatMap.2 ⟨f, hf, hs⟩)
def isPtrT (P : Program) (t : TypeId) : Option Bool := match P.underlying t with
 | some (.pointer _) => some true
 | some _ => some false
 | none => none
def methB (P : Program) (t : TypeId) (name : String) (f : FuncId) : Bool := match P.info? t with
 | some i => match i.methods.find? (·.name == name) with
  | some m => m.path.toList.isEmpty && (match m.func with
   | some (g, p) => g == f && (isPtrT P t == some p)
   | none => false)
  | none => false
 | none => false
theorem methB_run {P : Program} {t : TypeId} {name : String} {f : FuncId} (h : methB P t name f = true) (w : World) (v : Value) (n : Nat) : (method (n + 1) t v name).run P w = .ok (f, v) w := by
 unfold methB at h
 split at h
 ·rename_i i hi
  split at h
  ·rename_i mm hm
   have e1 : (typeInfo t).run P w = .ok i w := by simp [typeInfo, hi]
   unfold method
   rw [Sem.run_bind, e1]
   simp only [Result.andThen_ok, hm]
   rw [Bool.and_eq_true] at h
   obtain ⟨hp, h⟩ := h
   rw [List.isEmpty_iff] at hp
   split at h
   ·rename_i g p hf
    simp only [Bool.and_eq_true, beq_iff_eq] at h
    obtain ⟨rfl, h⟩ := h
    rw [hp]
    simp only [follow, Sem.run_bind, Sem.run_pure, Result.andThen_ok, hf]
    unfold isPtrT at h
    split at h
    ·rename_i el hu
     simp only [Option.some.injEq] at h
     subst h
     simp [receiverAt, run_underlying hu, Place.get]
    ·rename_i d hd hu
     simp only [Option.some.injEq] at h
     subst h
     simp only [receiverAt, Sem.run_bind, run_underlying hu, Result.andThen_ok]
     simp [Place.get]
    ·simp at h
   ·simp at h
  ·simp at h
 ·simp at h
theorem gmethsAll : (gmeths.all fun p => match gnames[p.2.1]? with
 | some nm => methB Try.prog p.1 nm p.2.2
 | none => false) = true := by kernel_rfl
theorem mlook_mem {l : List (TypeId × Nat × FuncId)} {t n f : Nat} (h : mlook l t n = some f) : (t, n, f) ∈ l := by
 induction l with
 | nil => simp [mlook] at h
 | cons p l ih =>
  obtain ⟨a, b, g⟩ := p
  simp only [mlook] at h
  split at h
  ·rename_i h1
   split at h
   ·rename_i h2
    have e1 := Nat.eq_of_beq_eq_true h1
    have e2 := Nat.eq_of_beq_eq_true h2
    simp only [Option.some.injEq] at h
    subst h; subst e1; subst e2; simp
   ·exact List.mem_cons_of_mem _ (ih h)
  ·exact List.mem_cons_of_mem _ (ih h)
theorem sfindi_get : ∀ {l : List String} {n : Nat} {s nm : String} {k : Nat}, n + l.length ≤ 1000000 → sfindi l n s = n + k → l[k]? = some nm → nm = s
 | [], n, s, nm, k, _, _, h2 => by simp at h2
 | a :: l, n, s, nm, k, hl, h1, h2 => by
  unfold sfindi at h1
  by_cases e : a = s
  ·rw [if_pos e] at h1
   have : k = 0 := by omega
   subst this
   simp at h2
   exact h2.symm.trans e
  ·rw [if_neg e] at h1
   cases k with
   | zero =>
    exfalso
    have key : ∀ (l : List String) (q : Nat), q + l.length ≤ 1000000 → n < q → sfindi l q s ≠ n := by
     intro l
     induction l with
     | nil => intro q hq hn he; unfold sfindi at he; simp at hq; omega
     | cons b l ih =>
      intro q hq hn he
      unfold sfindi at he
      split at he
      ·omega
      ·exact ih (q + 1) (by simp at hq; omega) (by omega) he
    exact key l (n + 1) (by simp at hl; omega) (by omega) (by simpa using h1)
   | succ k => exact sfindi_get (l := l) (n := n + 1) (k := k) (by simp at hl; omega) (by rw [h1]; omega) (by simpa using h2)
theorem E_good : E.Good where
 meth := by
  intro t name f h w v n
  have h1 := List.all_eq_true.1 gmethsAll _ (mlook_mem h)
  simp only at h1
  split at h1
  ·rename_i nm hnm
   have e : nm = name := sfindi_get (l := gnames) (n := 0) (by decide) (by unfold gname; exact (Nat.zero_add _).symm) hnm
   subst e
   exact methB_run h1 w v n
  ·simp at h1
 eqt := by
  intro t xs ys r w x y hne hc
  have ht : t = 144 := by
   unfold E at hne
   simp only [beq_iff_eq] at hne
   by_cases h1 : t = 144
   ·exact h1
   simp [h1] at hne
  subst ht
  exact eqt_deep (by kernel_rfl) (ae144 9998) w x y hc
 nog := by
  intro f fn hf hb
  have h := List.all_eq_true.1 nogAll fn (Array.mem_toList_iff.2 (Array.mem_of_getElem? hf))
  simpa [hb] using h
 sites := by
  intro f fn c hf hc s hs
  have h := List.all_eq_true.1 sitesAll (fn, f) (by rw [List.mem_zipIdx_iff_getElem?]; have hf' : Try.prog.funcs[f]? = some fn := hf; simpa using hf')
  simp only [Bool.or_eq_true] at h
  rcases h with h | h
  ·refine site_of (f := f) (by simpa using h) ?_
   have e : fcode f = c := by
    show (((E.P.funcs[f]?).bind (·.body)).getD .skip) = c
    rw [hf]
    simp [hc]
   rw [e]; exact hs
  ·rw [hc] at h
   simp only [Option.map_some, Option.getD_some, List.isEmpty_iff] at h
   rw [h] at hs
   simp at hs
 tab := by
  intro k s hs
  obtain ⟨hm, _⟩ := findSite_mem hs
  obtain ⟨f, hf, hm⟩ := List.mem_flatMap.1 hm
  have := sitesOf_sub hm
  exact ⟨fun t ht => site_of hf (this.1 t ht), fun t ht => site_of hf (this.2 t ht)⟩
theorem E_mix : E.P.follows .mixedOrders = true := by kernel_rfl
def B2 : Prop := And True True
def B3 : Prop := And True B2
def B4 : Prop := And True B3
def B5 : Prop := And True B4
def B6 : Prop := And True B5
def D2 : Prop := And B2 True
def D3 : Prop := And True D2
def D4 : Prop := And B2 B2
def D5 : Prop := And D3 B2
theorem q2 : B2 := ⟨trivial, trivial⟩
theorem q3 : B3 := ⟨trivial, q2⟩
theorem q4 : B4 := ⟨trivial, q3⟩
theorem q5 : B5 := ⟨trivial, q4⟩
theorem q6 : B6 := ⟨trivial, q5⟩
theorem e2 : D2 := ⟨q2, trivial⟩
theorem e3 : D3 := ⟨trivial, e2⟩
theorem e4 : D4 := ⟨q2, q2⟩
theorem e5 : D5 := ⟨e3, q2⟩
abbrev LQ (lp : CallF → Nat → Nat → Lp) (call : CallF) (fuel base k : Nat) (c : Code) : Prop := LpOk E call (lp call fuel base) fuel base k c
end Go.AM
namespace Go.AM
open Go Go.Proofs
noncomputable def r6_L0 (call : CallF) (fuel base : Nat) (kp : Value → M → Res2) (kx0 : Value → Value → Value → Value → Value → M → Res2) (n : Nat) : Value → Value → Value → Value → Value → Value → Value → M → Res2 :=
 Nat.rec (motive := fun _ => Value → Value → Value → Value → Value → Value → Value → M → Res2) (fun _ _ _ _ _ _ _ _ => none)
  (fun _ ih x1 x2 x3 x9 x11 x13 x14 m =>
   (k2 (vcall E.P base m .len [23] [x1]) fun u28 m => (k1 (mbin E .lss 3 x14 u28) fun u29 => (kb u29 (kb x13 (k1 (mindexAddr E.P 23 x1 x14) fun u30 => (k1 (xload E.P m 36 u30) fun u31 => (kc (call base 18 [x9, x11, u31] m) (fun u32 m => (k1 (mextract 0 u32) fun u33 => (k1 (mextract 1 u32) fun u34 => (k1 (mbin E .add 3 x14 (.int .i64 1)) fun u35 => (ih x1 x2 x3 x9 u33 u34 u35 m))))) (fun v m => kp v m)))) (kx0 x2 x3 x9 x11 x13 m)) (kx0 x2 x3 x9 x11 x13 m))))) n
noncomputable def r6_L2 (call : CallF) (fuel base : Nat) (kp : Value → M → Res2) (kx2 : Value → Value → Value → Value → Value → Value → M → Res2) (n : Nat) : Value → Value → Value → Value → Value → Value → Value → Value → M → Res2 :=
 Nat.rec (motive := fun _ => Value → Value → Value → Value → Value → Value → Value → Value → M → Res2) (fun _ _ _ _ _ _ _ _ _ => none)
  (fun _ ih x2 x3 x9 x11 x13 x15 x16 x17 m =>
   (k2 (vcall E.P base m .len [23] [x2]) fun u44 m => (k1 (mbin E .lss 3 x17 u44) fun u45 => (kb u45 (kb x13 (k1 (mindexAddr E.P 23 x2 x17) fun u46 => (k1 (xload E.P m 36 u46) fun u47 => (kc (call base 18 [x15, x16, u47] m) (fun u48 m => (k1 (mextract 0 u48) fun u49 => (k1 (mextract 1 u48) fun u50 => (k1 (mbin E .add 3 x17 (.int .i64 1)) fun u51 => (ih x2 x3 x9 x11 u50 x15 u49 u51 m))))) (fun v m => kp v m)))) (kx2 x3 x9 x11 x13 x15 x16 m)) (kx2 x3 x9 x11 x13 x15 x16 m))))) n
noncomputable def r6_L4 (call : CallF) (fuel base : Nat) (kp : Value → M → Res2) (kx4 : Value → Value → Value → Value → Value → M → Res2) (n : Nat) : Value → Value → Value → Value → Value → Value → Value → M → Res2 :=
 Nat.rec (motive := fun _ => Value → Value → Value → Value → Value → Value → Value → M → Res2) (fun _ _ _ _ _ _ _ _ => none)
  (fun _ ih x3 x9 x11 x13 x15 x16 x18 m =>
   (k2 (vcall E.P base m .len [23] [x3]) fun u58 m => (k1 (mbin E .lss 3 x18 u58) fun u59 => (kb u59 (kb x13 (k1 (mindexAddr E.P 23 x3 x18) fun u60 => (k1 (xload E.P m 36 u60) fun u61 => (kc (call base 18 [x9, x11, u61] m) (fun u62 m => (k1 (mextract 0 u62) fun u63 => (k1 (mextract 1 u62) fun u64 => (k1 (mbin E .add 3 x18 (.int .i64 1)) fun u65 => (ih x3 x9 u63 u64 x15 x16 u65 m))))) (fun v m => kp v m)))) (kx4 x9 x11 x13 x15 x16 m)) (kx4 x9 x11 x13 x15 x16 m))))) n
noncomputable def r6 (call : CallF) (fuel base : Nat) (x0 : Value) (x1 : Value) (x2 : Value) (x3 : Value) (m : M) : Res2 :=
 (k2 (vcall E.P base m .len [22] [x0]) fun u1 m => (k1 (mbin E .gtr 3 u1 (.int .i64 20)) fun u2 => (kb u2 (kc (call base 14 [] m) (fun u3 m => (fVal u3 fun v => some (.ret v, m))) (fun v m => some (.pan v, m))) (k2 (vcall E.P base m .len [23] [x1]) fun u4 m => (k1 (mbin E .gtr 3 u4 (.int .i64 100)) fun u5 => (kb u5 (kc (call base 14 [] m) (fun u6 m => (fVal u6 fun v => some (.ret v, m))) (fun v m => some (.pan v, m))) (k2 (vcall E.P base m .len [23] [x2]) fun u7 m => (k1 (mbin E .gtr 3 u7 (.int .i64 100)) fun u8 => (kb u8 (kc (call base 14 [] m) (fun u9 m => (fVal u9 fun v => some (.ret v, m))) (fun v m => some (.pan v, m))) (k2 (vcall E.P base m .len [23] [x3]) fun u10 m => (k1 (mbin E .gtr 3 u10 (.int .i64 100)) fun u11 => (kb u11 (kc (call base 14 [] m) (fun u12 m => (fVal u12 fun v => some (.ret v, m))) (fun v m => some (.pan v, m))) (kc (call base 15 [x0] m) (fun u13 m => (k1 (mextract 0 u13) fun u14 => (k1 (mextract 1 u13) fun u15 => (kc (call base 16 [x0] m) (fun u16 m => (k1 (mextract 0 u16) fun u17 => (k1 (mextract 1 u16) fun u18 => (k1 (mbin E .neq 26 u15 u18) fun u19 => (kb u19 (fVal (.bool false) fun v => some (.ret v, m)) (k1 (mbin E .eql 25 u14 (.pointer none)) fun u20 => (kb u20 (k1 (mbin E .eql 25 u14 (.pointer none)) fun u21 => (kb u21 (k1 (mbin E .neq 26 u15 (.int .i64 0)) fun u22 => (kb u22 (kc (call base 14 [] m) (fun u23 m => (fVal u23 fun v => some (.ret v, m))) (fun v m => some (.pan v, m))) (fVal (.bool false) fun v => some (.ret v, m)))) (fVal (.bool false) fun v => some (.ret v, m)))) (k1 (mbin E .neq 26 u15 (.int .i64 0)) fun u24 => (kb u24 (k1 (mbin E .eql 25 u14 (.pointer none)) fun u25 => (kb u25 (k1 (mbin E .neq 26 u15 (.int .i64 0)) fun u26 => (kb u26 (kc (call base 14 [] m) (fun u27 m => (fVal u27 fun v => some (.ret v, m))) (fun v m => some (.pan v, m))) (fVal (.bool false) fun v => some (.ret v, m)))) (fVal (.bool false) fun v => some (.ret v, m)))) (r6_L0 call fuel base (fun v m => some (.pan v, m)) (fun w36 w37 w38 w39 w40 m => (kc (call base 29 [w38] m) (fun u41 m => (k1 (mun .not w40) fun u42 => (kb u42 (fVal (.bool false) fun v => some (.ret v, m)) (k1 (mbin E .eql 25 u41 (.pointer none)) fun u43 => (kb u43 (fVal (.bool false) fun v => some (.ret v, m)) (r6_L2 call fuel base (fun v m => some (.pan v, m)) (fun w52 w53 w54 w55 w56 w57 m => (r6_L4 call fuel base (fun v m => some (.pan v, m)) (fun w66 w67 w68 w69 w70 m => (kb w68 (kc (call base 19 [w69, w70] m) (fun u71 m => (kb u71 (kc (call base 19 [w66, w67] m) (fun u72 m => (kb u72 (kc (call base 14 [] m) (fun u73 m => (fVal u73 fun v => some (.ret v, m))) (fun v m => some (.pan v, m))) (fVal (.bool false) fun v => some (.ret v, m)))) (fun v m => some (.pan v, m))) (fVal (.bool false) fun v => some (.ret v, m)))) (fun v m => some (.pan v, m))) (fVal (.bool false) fun v => some (.ret v, m)))) fuel w52 w53 w54 w55 w56 w57 (.int .i64 0) m)) fuel w36 w37 w38 w39 w40 u41 w39 (.int .i64 0) m)))))) (fun v m => some (.pan v, m)))) fuel x1 x2 x3 u14 u17 (.bool true) (.int .i64 0) m)))))))))) (fun v m => some (.pan v, m)))))) (fun v m => some (.pan v, m)))))))))))))))
def keep6 : Keep := { region := fun i => ([[0, 1, 2, 3], [0, 1, 2, 3, 36], [8], [0, 1, 2, 3, 9, 10], [1, 2, 3, 9, 10, 11, 12], [1, 2, 3, 9, 10, 11, 50], [8], [1, 2, 3, 9, 10, 11, 56], [8], [1, 2, 3, 9, 11, 13], [1, 2, 3, 9, 11, 13, 14], [1, 2, 3, 9, 11, 13, 14, 72], [1, 2, 3, 9, 11, 13, 14], [1, 2, 3, 9, 11, 13, 14], [2, 3, 9, 11, 13, 15], [2, 3, 9, 11, 13, 15, 92], [8], [2, 3, 9, 11, 13, 15, 16], [2, 3, 9, 11, 13, 15, 16, 17], [2, 3, 9, 11, 13, 15, 16, 17, 100], [2, 3, 9, 11, 13, 15, 16, 17], [2, 3, 9, 11, 13, 15, 16, 17], [3, 9, 11, 13, 15, 16, 18], [3, 9, 11, 13, 15, 16, 18, 119], [3, 9, 11, 13, 15, 16, 18], [3, 9, 11, 13, 15, 16, 18], [8]] : List (List Nat))[i]?, exit := fun i => ([[2, 3, 9, 11, 13], [1, 2, 3, 9, 11, 13, 14], [3, 9, 11, 13, 15, 16], [2, 3, 9, 11, 13, 15, 16, 17], [9, 11, 13, 15, 16], [3, 9, 11, 13, 15, 16, 18]] : List (List Nat))[i]?, ret := some [8] }
noncomputable def r6_L0_R (call : CallF) (fuel base n : Nat) (vs : List Value) (m : M) (K : KT) : Res2 := match vs with
 | [x1, x2, x3, x9, x11, x13, x14] => r6_L0 call fuel base (fun v m => K (.pan v) { n := 146, l := [] } m) (fun y2 y3 y9 y11 y13 m => K (.exit 0) { n := 146, l := [(2, y2), (3, y3), (9, y9), (11, y11), (13, y13)] } m) n x1 x2 x3 x9 x11 x13 x14 m
 | _ => none
noncomputable def r6_L2_R (call : CallF) (fuel base n : Nat) (vs : List Value) (m : M) (K : KT) : Res2 := match vs with
 | [x2, x3, x9, x11, x13, x15, x16, x17] => r6_L2 call fuel base (fun v m => K (.pan v) { n := 146, l := [] } m) (fun y3 y9 y11 y13 y15 y16 m => K (.exit 2) { n := 146, l := [(3, y3), (9, y9), (11, y11), (13, y13), (15, y15), (16, y16)] } m) n x2 x3 x9 x11 x13 x15 x16 x17 m
 | _ => none
noncomputable def r6_L4_R (call : CallF) (fuel base n : Nat) (vs : List Value) (m : M) (K : KT) : Res2 := match vs with
 | [x3, x9, x11, x13, x15, x16, x18] => r6_L4 call fuel base (fun v m => K (.pan v) { n := 146, l := [] } m) (fun y9 y11 y13 y15 y16 m => K (.exit 4) { n := 146, l := [(9, y9), (11, y11), (13, y13), (15, y15), (16, y16)] } m) n x3 x9 x11 x13 x15 x16 x18 m
 | _ => none
noncomputable def lp6 (call : CallF) (fuel base : Nat) : Lp := lpsel [(0, fun T m K => kslots 146 [1, 2, 3, 9, 11, 13, 14] T fun vs => r6_L0_R call fuel base fuel vs m K), (2, fun T m K => kslots 146 [2, 3, 9, 11, 13, 15, 16, 17] T fun vs => r6_L2_R call fuel base fuel vs m K), (4, fun T m K => kslots 146 [3, 9, 11, 13, 15, 16, 18] T fun vs => r6_L4_R call fuel base fuel vs m K)]
noncomputable def c6 : Code := Try.f6.body.getD .skip
noncomputable def p6_0 : Code := loopB (blockB (seqR (seqL (seqR (seqR (seqR (seqR (seqR (seqR (seqR c6))))))))))
noncomputable def p6_2 : Code := loopB (blockB (seqR (seqL (seqR (seqR (seqR (seqR (seqR (seqR (seqR (seqR (seqR (seqR (seqR c6))))))))))))))
noncomputable def p6_4 : Code := loopB (blockB (seqR (seqL (seqR (seqR (seqR (seqR (seqR (seqR (seqR (seqR (seqR (seqR (seqR (seqR c6)))))))))))))))
theorem r6_L0_ok (call : CallF) (fuel base : Nat) : LQ lp6 call fuel base 0 p6_0 := by
 refine loop_ok (kp := keep6) (hb := Eq.mpr (show _ = (And B3 B2) by kernel_rfl) ⟨q3, q2⟩) 146 [1, 2, 3, 9, 11, 13, 14] (r6_L0_R call fuel base) ?_ ?_ (fun _ _ _ => rfl)
 ·intro vs m K
  unfold r6_L0_R
  split <;> rfl
 ·intro n vs m K hl
  match vs, hl with
  | [x1, x2, x3, x9, x11, x13, x14], _ => show _ = _; kernel_rfl
theorem r6_L2_ok (call : CallF) (fuel base : Nat) : LQ lp6 call fuel base 2 p6_2 := by
 refine loop_ok (kp := keep6) (hb := Eq.mpr (show _ = (And B3 B2) by kernel_rfl) ⟨q3, q2⟩) 146 [2, 3, 9, 11, 13, 15, 16, 17] (r6_L2_R call fuel base) ?_ ?_ (fun _ _ _ => rfl)
 ·intro vs m K
  unfold r6_L2_R
  split <;> rfl
 ·intro n vs m K hl
  match vs, hl with
  | [x2, x3, x9, x11, x13, x15, x16, x17], _ => show _ = _; kernel_rfl
theorem r6_L4_ok (call : CallF) (fuel base : Nat) : LQ lp6 call fuel base 4 p6_4 := by
 refine loop_ok (kp := keep6) (hb := Eq.mpr (show _ = (And B3 B2) by kernel_rfl) ⟨q3, q2⟩) 146 [3, 9, 11, 13, 15, 16, 18] (r6_L4_R call fuel base) ?_ ?_ (fun _ _ _ => rfl)
 ·intro vs m K
  unfold r6_L4_R
  split <;> rfl
 ·intro n vs m K hl
  match vs, hl with
  | [x3, x9, x11, x13, x15, x16, x18], _ => show _ = _; kernel_rfl
theorem r6_eq (call : CallF) (fuel base : Nat) (x0 : Value) (x1 : Value) (x2 : Value) (x3 : Value) (m : M) : kbody E call keep6 (lp6 call fuel base) base Try.f6 [x0, x1, x2, x3] m = r6 call fuel base x0 x1 x2 x3 m := by
 kernel_rfl
noncomputable def rf6 : RF := fun call fuel base args m => match args with
 | [x0, x1, x2, x3] => r6 call fuel base x0 x1 x2 x3 m
 | _ => none
theorem rf6_ok : RFok E 6 rf6 := by
 show RFok' E 6 rf6
 refine ⟨Try.f6, (by kernel_rfl), fun call fuel base args m r _ h => ?_⟩
 unfold rf6 at h
 split at h
 ·rw [← r6_eq] at h
  exact kbody_sound (c := c6) (by kernel_rfl) (Eq.mpr (show _ = (And True (And D3 (And True (And True (And D3 (And D3 (And True (And (And True (LQ lp6 call fuel base 0 p6_0)) (And True (And D3 (And True (And (And True (LQ lp6 call fuel base 2 p6_2)) (And (And True (LQ lp6 call fuel base 4 p6_4)) B2))))))))))))) by kernel_rfl) ⟨trivial, ⟨e3, ⟨trivial, ⟨trivial, ⟨e3, ⟨e3, ⟨trivial, ⟨⟨trivial, (r6_L0_ok call fuel base)⟩, ⟨trivial, ⟨e3, ⟨trivial, ⟨⟨trivial, (r6_L2_ok call fuel base)⟩, ⟨⟨trivial, (r6_L4_ok call fuel base)⟩, q2⟩⟩⟩⟩⟩⟩⟩⟩⟩⟩⟩⟩⟩) h
 ·simp at h
end Go.AM
namespace Go.AM
open Go Go.Proofs
noncomputable def r14 (call : CallF) (fuel base : Nat) (m : M) : Res2 :=
 (k2 (xbuildSlice E.P m 22 2 [(0, (.int .i64 5)), (1, (.int .i64 0))]) fun u1 m => (kc (call base 15 [u1] m) (fun u2 m => (k1 (mextract 0 u2) fun u3 => (k1 (mextract 1 u2) fun u4 => (k1 (mbin E .neq 26 u4 (.int .i64 0)) fun u5 => (kb u5 (fVal (.bool false) fun v => some (.ret v, m)) (k1 (mbin E .eql 25 u3 (.pointer none)) fun u6 => (kb u6 (fVal (.bool false) fun v => some (.ret v, m)) (kc (call base 23 [u3, (.int .i64 0), (.int .i64 1), (.int .i64 2)] m) (fun u7 m => (k1 (mbin E .neq 26 u7 (.int .i64 0)) fun u8 => (kb u8 (fVal (.bool false) fun v => some (.ret v, m)) (kc (call base 27 [u3, (.int .i64 1)] m) (fun u9 m => (k1 (mextract 0 u9) fun u10 => (k1 (mextract 1 u9) fun u11 => (k1 (mbin E .neq 26 u11 (.int .i64 0)) fun u12 => (kb u12 (fVal (.bool false) fun v => some (.ret v, m)) (k1 (mbin E .neq 3 u10 (.int .i64 1)) fun u13 => (kb u13 (fVal (.bool false) fun v => some (.ret v, m)) (kc (call base 25 [u3, (.int .i64 0), (.int .i64 1)] m) (fun u14 m => (k1 (mbin E .neq 26 u14 (.int .i64 0)) fun u15 => (kb u15 (fVal (.bool false) fun v => some (.ret v, m)) (kc (call base 25 [u3, (.int .i64 1), (.int .i64 0)] m) (fun u16 m => (k1 (mbin E .neq 26 u16 (.int .i64 0)) fun u17 => (kb u17 (fVal (.bool false) fun v => some (.ret v, m)) (kc (call base 25 [u3, (.int .i64 0), (.int .i64 1)] m) (fun u18 m => (k1 (mbin E .neq 26 u18 (.int .i64 0)) fun u19 => (kb u19 (fVal (.bool false) fun v => some (.ret v, m)) (kc (call base 31 [u3, (.int .i64 1)] m) (fun u20 m => (k1 (mextract 0 u20) fun u21 => (k1 (mextract 1 u20) fun u22 => (k2 (xalloc E.P m 62) fun u23 m => (ks (xstore E.P base m 62 u23 u21) fun m => (k1 (mbin E .eql 26 u22 (.int .i64 0)) fun u24 => (kb u24 (k1 (mfieldAddr E.P 62 u23 0) fun u25 => (k1 (xload E.P m 22 u25) fun u26 => (k2 (xbuildSlice E.P m 22 2 [(0, (.int .i64 3)), (1, (.int .i64 0))]) fun u27 m => (kc (call base 17 [u26, u27] m) (fun u28 m => (kb u28 (k1 (mfieldAddr E.P 62 u23 1) fun u29 => (k1 (xload E.P m 60 u29) fun u30 => (k2 (vcall E.P base m .len [60] [u30]) fun u31 m => (k1 (mbin E .eql 3 u31 (.int .i64 2)) fun u32 => (kb u32 (k1 (mfieldAddr E.P 62 u23 1) fun u33 => (k1 (xload E.P m 60 u33) fun u34 => (k1 (mindexAddr E.P 60 u34 (.int .i64 0)) fun u35 => (k1 (xload E.P m 80 u35) fun u36 => (k2 (vcall E.P base m .len [80] [u36]) fun u37 m => (k1 (mbin E .eql 3 u37 (.int .i64 2)) fun u38 => (kb u38 (k1 (mfieldAddr E.P 62 u23 1) fun u39 => (k1 (xload E.P m 60 u39) fun u40 => (k1 (mindexAddr E.P 60 u40 (.int .i64 0)) fun u41 => (k1 (xload E.P m 80 u41) fun u42 => (k1 (mindexAddr E.P 80 u42 (.int .i64 1)) fun u43 => (k1 (xload E.P m 22 u43) fun u44 => (k2 (xbuildSlice E.P m 22 1 [(0, (.int .i64 2))]) fun u45 m => (kc (call base 17 [u44, u45] m) (fun u46 m => (fVal u46 fun v => some (.ret v, m))) (fun v m => some (.pan v, m)))))))))) (fVal (.bool false) fun v => some (.ret v, m))))))))) (fVal (.bool false) fun v => some (.ret v, m))))))) (fVal (.bool false) fun v => some (.ret v, m)))) (fun v m => some (.pan v, m)))))) (fVal (.bool false) fun v => some (.ret v, m))))))))) (fun v m => some (.pan v, m)))))) (fun v m => some (.pan v, m)))))) (fun v m => some (.pan v, m)))))) (fun v m => some (.pan v, m)))))))))) (fun v m => some (.pan v, m)))))) (fun v m => some (.pan v, m)))))))))) (fun v m => some (.pan v, m))))
def keep14 : Keep := { region := fun i => ([[], [1, 2], [1, 22], [0], [1, 3, 4], [1, 48], [0], [5, 6], [0]] : List (List Nat))[i]?, exit := fun i => ([] : List (List Nat))[i]?, ret := some [0] }
noncomputable def lp14 (call : CallF) (fuel base : Nat) : Lp := lpsel []
noncomputable def c14 : Code := Try.f14.body.getD .skip
theorem r14_eq (call : CallF) (fuel base : Nat) (m : M) : kbody E call keep14 (lp14 call fuel base) base Try.f14 [] m = r14 call fuel base  m := by
 kernel_rfl
noncomputable def rf14 : RF := fun call fuel base args m => match args with
 | [] => r14 call fuel base  m
 | _ => none
theorem rf14_ok : RFok E 14 rf14 := by
 show RFok' E 14 rf14
 refine ⟨Try.f14, (by kernel_rfl), fun call fuel base args m r _ h => ?_⟩
 unfold rf14 at h
 split at h
 ·rw [← r14_eq] at h
  exact kbody_sound (c := c14) (by kernel_rfl) (Eq.mpr (show _ = (And True (And True (And D3 (And True (And D3 B3))))) by kernel_rfl) ⟨trivial, ⟨trivial, ⟨e3, ⟨trivial, ⟨e3, q3⟩⟩⟩⟩⟩) h
 ·simp at h
end Go.AM
namespace Go.AM
open Go Go.Proofs
noncomputable def r15 (call : CallF) (fuel base : Nat) (x0 : Value) (m : M) : Res2 :=
 (k2 (vcall E.P base m .len [22] [x0]) fun u1 m => (kc (call base 49 [u1] m) (fun u2 m => (k1 (mun .not u2) fun u3 => (kb u3 (some (.ret (.tuple #[(.pointer none), (.int .i64 2)]), m)) (kc (call base 50 [x0, (.func (.func 51) #[] #[])] m) (fun u4 m => (kb u4 (some (.ret (.tuple #[(.pointer none), (.int .i64 2)]), m)) (kc (call base 52 [x0] m) (fun u5 m => (some (.ret (.tuple #[u5, (.int .i64 0)]), m))) (fun v m => some (.pan v, m))))) (fun v m => some (.pan v, m)))))) (fun v m => some (.pan v, m))))
def keep15 : Keep := { region := fun i => ([[0], [0, 11], [2, 3], [2, 3]] : List (List Nat))[i]?, exit := fun i => ([] : List (List Nat))[i]?, ret := some [2, 3] }
noncomputable def lp15 (call : CallF) (fuel base : Nat) : Lp := lpsel []
noncomputable def c15 : Code := Try.f15.body.getD .skip
theorem r15_eq (call : CallF) (fuel base : Nat) (x0 : Value) (m : M) : kbody E call keep15 (lp15 call fuel base) base Try.f15 [x0] m = r15 call fuel base x0 m := by
 kernel_rfl
noncomputable def rf15 : RF := fun call fuel base args m => match args with
 | [x0] => r15 call fuel base x0 m
 | _ => none
theorem rf15_ok : RFok E 15 rf15 := by
 show RFok' E 15 rf15
 refine ⟨Try.f15, (by kernel_rfl), fun call fuel base args m r _ h => ?_⟩
 unfold rf15 at h
 split at h
 ·rw [← r15_eq] at h
  exact kbody_sound (c := c15) (by kernel_rfl) (Eq.mpr (show _ = (And True D5) by kernel_rfl) ⟨trivial, e5⟩) h
 ·simp at h
end Go.AM
namespace Go.AM
open Go Go.Proofs
noncomputable def r16_L0 (call : CallF) (fuel base : Nat) (kr : Value → Value → M → Res2) (kx0 : Value → M → Res2) (n : Nat) : Value → Value → Value → Value → M → Res2 :=
 Nat.rec (motive := fun _ => Value → Value → Value → Value → M → Res2) (fun _ _ _ _ _ => none)
  (fun _ ih x0 x4 x5 x6 m =>
   (k1 (mbin E .lss 3 x6 x4) fun u6 => (kb u6 (k1 (mindexAddr E.P 22 x0 x6) fun u7 => (k1 (xload E.P m 3 u7) fun u8 => (k1 (mbin E .lss 3 u8 (.int .i64 0)) fun u9 => (kb u9 (kr (.pointer none) (.int .i64 2) m) (k1 (mindexAddr E.P 22 x0 x6) fun u10 => (k1 (xload E.P m 3 u10) fun u11 => (k1 (mbin E .gtr 3 u11 (.int .i64 1000000)) fun u12 => (kb u12 (kr (.pointer none) (.int .i64 2) m) (k1 (mnil x5) fun u13 => (k1 (mfieldAddr E.P 96 u13 0) fun u14 => (k1 (xload E.P m 22 u14) fun u15 => (k1 (mindexAddr E.P 22 x0 x6) fun u16 => (k1 (xload E.P m 3 u16) fun u17 => (k2 (xbuildSlice E.P m 22 1 [(0, u17)]) fun u18 m => (k2 (vcall E.P base m .append [22, 22] [u15, u18]) fun u19 m => (k1 (mnil x5) fun u20 => (k1 (mfieldAddr E.P 96 u20 0) fun u21 => (ks (xstore E.P base m 22 u21 u19) fun m => (k1 (mnil x5) fun u22 => (k1 (mfieldAddr E.P 96 u22 1) fun u23 => (k1 (xload E.P m 80 u23) fun u24 => (k2 (xmakeSlice E.P m 22 x4 x4) fun u25 m => (k2 (xbuildSlice E.P m 80 1 [(0, u25)]) fun u26 m => (k2 (vcall E.P base m .append [80, 80] [u24, u26]) fun u27 m => (k1 (mnil x5) fun u28 => (k1 (mfieldAddr E.P 96 u28 1) fun u29 => (ks (xstore E.P base m 80 u29 u27) fun m => (k1 (mnil x5) fun u30 => (k1 (mfieldAddr E.P 96 u30 2) fun u31 => (k1 (xload E.P m 93 u31) fun u32 => (k2 (xmakeSlice E.P m 97 x4 x4) fun u33 m => (k2 (xbuildSlice E.P m 93 1 [(0, u33)]) fun u34 m => (k2 (vcall E.P base m .append [93, 93] [u32, u34]) fun u35 m => (k1 (mnil x5) fun u36 => (k1 (mfieldAddr E.P 96 u36 2) fun u37 => (ks (xstore E.P base m 93 u37 u35) fun m => (k1 (mbin E .add 3 x6 (.int .i64 1)) fun u38 => (ih x0 x4 x5 u38 m)))))))))))))))))))))))))))))))))))))) (kx0 x5 m)))) n
noncomputable def r16 (call : CallF) (fuel base : Nat) (x0 : Value) (m : M) : Res2 :=
 (k2 (vcall E.P base m .len [22] [x0]) fun u1 m => (k1 (mbin E .lss 3 u1 (.int .i64 2)) fun u2 => (kb u2 (some (.ret (.tuple #[(.pointer none), (.int .i64 2)]), m)) (k1 (mbin E .gtr 3 u1 (.int .i64 5)) fun u3 => (kb u3 (some (.ret (.tuple #[(.pointer none), (.int .i64 2)]), m)) (k1 (mbuild E.P 96 []) fun u4 => (k2 (xbox m u4) fun u5 m => (r16_L0 call fuel base (fun w39 w40 m => (some (.ret (.tuple #[w39, w40]), m))) (fun w41 m => (some (.ret (.tuple #[w41, (.int .i64 0)]), m))) fuel x0 u1 u5 (.int .i64 0) m))))))))
def keep16 : Keep := { region := fun i => ([[0], [0, 4], [0, 4, 14], [2, 3], [0, 4, 5], [0, 4, 5, 6], [0, 4, 5, 6, 19], [0, 4, 5, 6], [0, 4, 5, 6, 33], [2, 3], [0, 4, 5, 6], [0, 4, 5, 6], [0, 4, 5, 6], [2, 3]] : List (List Nat))[i]?, exit := fun i => ([[5], [0, 4, 5, 6]] : List (List Nat))[i]?, ret := some [2, 3] }
noncomputable def r16_L0_R (call : CallF) (fuel base n : Nat) (vs : List Value) (m : M) (K : KT) : Res2 := match vs with
 | [x0, x4, x5, x6] => r16_L0 call fuel base (fun y2 y3 m => K .ret { n := 70, l := [(2, y2), (3, y3)] } m) (fun y5 m => K (.exit 0) { n := 70, l := [(5, y5)] } m) n x0 x4 x5 x6 m
 | _ => none
noncomputable def lp16 (call : CallF) (fuel base : Nat) : Lp := lpsel [(0, fun T m K => kslots 70 [0, 4, 5, 6] T fun vs => r16_L0_R call fuel base fuel vs m K)]
noncomputable def c16 : Code := Try.f16.body.getD .skip
noncomputable def p16_0 : Code := loopB (blockB (seqR (seqL (seqR (seqR (seqR (seqR c16)))))))
theorem r16_L0_ok (call : CallF) (fuel base : Nat) : LQ lp16 call fuel base 0 p16_0 := by
 refine loop_ok (kp := keep16) (hb := Eq.mpr (show _ = (And B3 (And (And D3 B3) True)) by kernel_rfl) ⟨q3, ⟨⟨e3, q3⟩, trivial⟩⟩) 70 [0, 4, 5, 6] (r16_L0_R call fuel base) ?_ ?_ (fun _ _ _ => rfl)
 ·intro vs m K
  unfold r16_L0_R
  split <;> rfl
 ·intro n vs m K hl
  match vs, hl with
  | [x0, x4, x5, x6], _ => show _ = _; kernel_rfl
theorem r16_eq (call : CallF) (fuel base : Nat) (x0 : Value) (m : M) : kbody E call keep16 (lp16 call fuel base) base Try.f16 [x0] m = r16 call fuel base x0 m := by
 kernel_rfl
noncomputable def rf16 : RF := fun call fuel base args m => match args with
 | [x0] => r16 call fuel base x0 m
 | _ => none
theorem rf16_ok : RFok E 16 rf16 := by
 show RFok' E 16 rf16
 refine ⟨Try.f16, (by kernel_rfl), fun call fuel base args m r _ h => ?_⟩
 unfold rf16 at h
 split at h
 ·rw [← r16_eq] at h
  exact kbody_sound (c := c16) (by kernel_rfl) (Eq.mpr (show _ = (And True (And True (And D3 (And True (And (And True (LQ lp16 call fuel base 0 p16_0)) B2))))) by kernel_rfl) ⟨trivial, ⟨trivial, ⟨e3, ⟨trivial, ⟨⟨trivial, (r16_L0_ok call fuel base)⟩, q2⟩⟩⟩⟩⟩) h
 ·simp at h
end Go.AM
namespace Go.AM
open Go Go.Proofs
noncomputable def r17_L0 (call : CallF) (fuel base : Nat) (kr : Value → M → Res2) (kx0 : M → Res2) (n : Nat) : Value → Value → Value → M → Res2 :=
 Nat.rec (motive := fun _ => Value → Value → Value → M → Res2) (fun _ _ _ _ => none)
  (fun _ ih x0 x1 x5 m =>
   (k2 (vcall E.P base m .len [22] [x0]) fun u4 m => (k1 (mbin E .lss 3 x5 u4) fun u5 => (kb u5 (k1 (mindexAddr E.P 22 x0 x5) fun u6 => (k1 (xload E.P m 3 u6) fun u7 => (k1 (mindexAddr E.P 22 x1 x5) fun u8 => (k1 (xload E.P m 3 u8) fun u9 => (k1 (mbin E .neq 3 u7 u9) fun u10 => (kb u10 (kr (.bool false) m) (k1 (mbin E .add 3 x5 (.int .i64 1)) fun u11 => (ih x0 x1 u11 m)))))))) (kx0 m))))) n
noncomputable def r17 (call : CallF) (fuel base : Nat) (x0 : Value) (x1 : Value) (m : M) : Res2 :=
 (k2 (vcall E.P base m .len [22] [x0]) fun u1 m => (k2 (vcall E.P base m .len [22] [x1]) fun u2 m => (k1 (mbin E .neq 3 u1 u2) fun u3 => (kb u3 (fVal (.bool false) fun v => some (.ret v, m)) (r17_L0 call fuel base (fun w12 m => (fVal w12 fun v => some (.ret v, m))) (fun m => (fVal (.bool true) fun v => some (.ret v, m))) fuel x0 x1 (.int .i64 0) m)))))
def keep17 : Keep := { region := fun i => ([[0, 1], [0, 1, 10], [4], [0, 1, 5], [0, 1, 5, 14], [0, 1, 5], [0, 1, 5, 25], [4], [4]] : List (List Nat))[i]?, exit := fun i => ([[], [0, 1, 5]] : List (List Nat))[i]?, ret := some [4] }
noncomputable def r17_L0_R (call : CallF) (fuel base n : Nat) (vs : List Value) (m : M) (K : KT) : Res2 := match vs with
 | [x0, x1, x5] => r17_L0 call fuel base (fun y4 m => K .ret { n := 26, l := [(4, y4)] } m) (fun m => K (.exit 0) { n := 26, l := [] } m) n x0 x1 x5 m
 | _ => none
noncomputable def lp17 (call : CallF) (fuel base : Nat) : Lp := lpsel [(0, fun T m K => kslots 26 [0, 1, 5] T fun vs => r17_L0_R call fuel base fuel vs m K)]
noncomputable def c17 : Code := Try.f17.body.getD .skip
noncomputable def p17_0 : Code := loopB (blockB (seqR (seqL (seqR (seqR c17)))))
theorem r17_L0_ok (call : CallF) (fuel base : Nat) : LQ lp17 call fuel base 0 p17_0 := by
 refine loop_ok (kp := keep17) (hb := Eq.mpr (show _ = (And B3 (And D3 True)) by kernel_rfl) ⟨q3, ⟨e3, trivial⟩⟩) 26 [0, 1, 5] (r17_L0_R call fuel base) ?_ ?_ (fun _ _ _ => rfl)
 ·intro vs m K
  unfold r17_L0_R
  split <;> rfl
 ·intro n vs m K hl
  match vs, hl with
  | [x0, x1, x5], _ => show _ = _; kernel_rfl
theorem r17_eq (call : CallF) (fuel base : Nat) (x0 : Value) (x1 : Value) (m : M) : kbody E call keep17 (lp17 call fuel base) base Try.f17 [x0, x1] m = r17 call fuel base x0 x1 m := by
 kernel_rfl
noncomputable def rf17 : RF := fun call fuel base args m => match args with
 | [x0, x1] => r17 call fuel base x0 x1 m
 | _ => none
theorem rf17_ok : RFok E 17 rf17 := by
 show RFok' E 17 rf17
 refine ⟨Try.f17, (by kernel_rfl), fun call fuel base args m r _ h => ?_⟩
 unfold rf17 at h
 split at h
 ·rw [← r17_eq] at h
  exact kbody_sound (c := c17) (by kernel_rfl) (Eq.mpr (show _ = (And True (And D3 (And (And True (LQ lp17 call fuel base 0 p17_0)) B2))) by kernel_rfl) ⟨trivial, ⟨e3, ⟨⟨trivial, (r17_L0_ok call fuel base)⟩, q2⟩⟩⟩) h
 ·simp at h
end Go.AM
namespace Go.AM
open Go Go.Proofs
noncomputable def r18 (call : CallF) (fuel base : Nat) (x0 : Value) (x1 : Value) (x2 : Value) (m : M) : Res2 :=
 (k2 (xbox m x2) fun u1 m => (k1 (mfieldAddr E.P 36 u1 0) fun u2 => (k1 (xload E.P m 5 u2) fun u3 => (k1 (mbin E .rem 5 u3 (.int .u8 8)) fun u4 => (k1 (mbin E .eql 5 u4 (.int .u8 0)) fun u5 => (kb u5 (k1 (mfieldAddr E.P 36 u1 1) fun u6 => (k1 (xload E.P m 3 u6) fun u7 => (k1 (mfieldAddr E.P 36 u1 3) fun u8 => (k1 (xload E.P m 3 u8) fun u9 => (kc (call base 53 [x1, u7, u9] m) (fun u10 m => (k1 (mextract 0 u10) fun u11 => (k1 (mextract 1 u10) fun u12 => (k1 (mfieldAddr E.P 36 u1 1) fun u13 => (k1 (xload E.P m 3 u13) fun u14 => (k1 (mfieldAddr E.P 36 u1 3) fun u15 => (k1 (xload E.P m 3 u15) fun u16 => (kc (call base 24 [x0, u14, u16] m) (fun u17 m => (k1 (mbin E .eql 26 u17 u12) fun u18 => (kb u18 (k1 (mbin E .eql 3 (.int .i64 0) (.int .i64 0)) fun u19 => (some (.ret (.tuple #[u11, u19]), m))) (some (.ret (.tuple #[u11, (.bool false)]), m))))) (fun v m => some (.pan v, m)))))))))) (fun v m => some (.pan v, m))))))) (k1 (mbin E .eql 5 u4 (.int .u8 1)) fun u20 => (kb u20 (k1 (mfieldAddr E.P 36 u1 1) fun u21 => (k1 (xload E.P m 3 u21) fun u22 => (k1 (mfieldAddr E.P 36 u1 2) fun u23 => (k1 (xload E.P m 3 u23) fun u24 => (k1 (mfieldAddr E.P 36 u1 3) fun u25 => (k1 (xload E.P m 3 u25) fun u26 => (kc (call base 54 [x1, u22, u24, u26] m) (fun u27 m => (k1 (mextract 0 u27) fun u28 => (k1 (mextract 1 u27) fun u29 => (k1 (mfieldAddr E.P 36 u1 1) fun u30 => (k1 (xload E.P m 3 u30) fun u31 => (k1 (mfieldAddr E.P 36 u1 2) fun u32 => (k1 (xload E.P m 3 u32) fun u33 => (k1 (mfieldAddr E.P 36 u1 3) fun u34 => (k1 (xload E.P m 3 u34) fun u35 => (kc (call base 23 [x0, u31, u33, u35] m) (fun u36 m => (k1 (mbin E .eql 26 u36 u29) fun u37 => (kb u37 (k1 (mbin E .eql 3 (.int .i64 0) (.int .i64 0)) fun u38 => (some (.ret (.tuple #[u28, u38]), m))) (some (.ret (.tuple #[u28, (.bool false)]), m))))) (fun v m => some (.pan v, m)))))))))))) (fun v m => some (.pan v, m))))))))) (k1 (mbin E .eql 5 u4 (.int .u8 2)) fun u39 => (kb u39 (k1 (mfieldAddr E.P 36 u1 1) fun u40 => (k1 (xload E.P m 3 u40) fun u41 => (k1 (mfieldAddr E.P 36 u1 2) fun u42 => (k1 (xload E.P m 3 u42) fun u43 => (k1 (mfieldAddr E.P 36 u1 3) fun u44 => (k1 (xload E.P m 3 u44) fun u45 => (kc (call base 54 [x1, u41, u43, u45] m) (fun u46 m => (k1 (mextract 0 u46) fun u47 => (k1 (mextract 1 u46) fun u48 => (k1 (mfieldAddr E.P 36 u1 1) fun u49 => (k1 (xload E.P m 3 u49) fun u50 => (k1 (mfieldAddr E.P 36 u1 2) fun u51 => (k1 (xload E.P m 3 u51) fun u52 => (k1 (mfieldAddr E.P 36 u1 3) fun u53 => (k1 (xload E.P m 3 u53) fun u54 => (kc (call base 23 [x0, u50, u52, u54] m) (fun u55 m => (k1 (mbin E .eql 26 u55 u48) fun u56 => (kb u56 (k1 (mbin E .eql 3 (.int .i64 0) (.int .i64 0)) fun u57 => (some (.ret (.tuple #[u47, u57]), m))) (some (.ret (.tuple #[u47, (.bool false)]), m))))) (fun v m => some (.pan v, m)))))))))))) (fun v m => some (.pan v, m))))))))) (k1 (mbin E .eql 5 u4 (.int .u8 7)) fun u58 => (kb u58 (k1 (mfieldAddr E.P 36 u1 1) fun u59 => (k1 (xload E.P m 3 u59) fun u60 => (kc (call base 55 [x1, u60] m) (fun u61 m => (k1 (mextract 0 u61) fun u62 => (k1 (mextract 1 u61) fun u63 => (k1 (mextract 2 u61) fun u64 => (k1 (mfieldAddr E.P 36 u1 1) fun u65 => (k1 (xload E.P m 3 u65) fun u66 => (kc (call base 27 [x0, u66] m) (fun u67 m => (k1 (mextract 0 u67) fun u68 => (k1 (mextract 1 u67) fun u69 => (k1 (mbin E .eql 26 u69 u64) fun u70 => (kb u70 (k1 (mbin E .eql 3 u68 u63) fun u71 => (some (.ret (.tuple #[u62, u71]), m))) (some (.ret (.tuple #[u62, (.bool false)]), m))))))) (fun v m => some (.pan v, m))))))))) (fun v m => some (.pan v, m))))) (k1 (mfieldAddr E.P 36 u1 1) fun u72 => (k1 (xload E.P m 3 u72) fun u73 => (k1 (mfieldAddr E.P 36 u1 2) fun u74 => (k1 (xload E.P m 3 u74) fun u75 => (kc (call base 56 [x1, u73, u75] m) (fun u76 m => (k1 (mextract 0 u76) fun u77 => (k1 (mextract 1 u76) fun u78 => (k1 (mfieldAddr E.P 36 u1 1) fun u79 => (k1 (xload E.P m 3 u79) fun u80 => (k1 (mfieldAddr E.P 36 u1 2) fun u81 => (k1 (xload E.P m 3 u81) fun u82 => (kc (call base 25 [x0, u80, u82] m) (fun u83 m => (k1 (mbin E .eql 26 u83 u78) fun u84 => (kb u84 (k1 (mbin E .eql 3 (.int .i64 0) (.int .i64 0)) fun u85 => (some (.ret (.tuple #[u77, u85]), m))) (some (.ret (.tuple #[u77, (.bool false)]), m))))) (fun v m => some (.pan v, m)))))))))) (fun v m => some (.pan v, m)))))))))))))))))))
def keep18 : Keep := { region := fun i => ([[0, 1, 5], [0, 1, 5], [0, 1, 5, 10, 11], [0, 1, 5, 10, 11, 25], [0, 5, 10, 11, 21, 22], [1, 8, 9, 10, 11], [0, 1, 5, 10, 11, 25, 43], [0, 5, 10, 11, 12, 13], [1, 8, 9, 10, 11], [0, 1, 5, 10, 11, 25, 62], [0, 1, 5, 10, 11, 25, 62], [0, 5, 10, 11, 14, 15], [1, 8, 9, 10, 11], [0, 1, 5, 10, 11, 86], [0, 5, 16, 17, 18], [16, 17, 18, 19, 20], [1, 8, 9, 10, 11], [6, 7]] : List (List Nat))[i]?, exit := fun i => ([[1, 8, 9, 10, 11]] : List (List Nat))[i]?, ret := some [6, 7] }
noncomputable def lp18 (call : CallF) (fuel base : Nat) : Lp := lpsel []
noncomputable def c18 : Code := Try.f18.body.getD .skip
theorem r18_eq (call : CallF) (fuel base : Nat) (x0 : Value) (x1 : Value) (x2 : Value) (m : M) : kbody E call keep18 (lp18 call fuel base) base Try.f18 [x0, x1, x2] m = r18 call fuel base x0 x1 x2 m := by
 kernel_rfl
noncomputable def rf18 : RF := fun call fuel base args m => match args with
 | [x0, x1, x2] => r18 call fuel base x0 x1 x2 m
 | _ => none
theorem rf18_ok : RFok E 18 rf18 := by
 show RFok' E 18 rf18
 refine ⟨Try.f18, (by kernel_rfl), fun call fuel base args m r _ h => ?_⟩
 unfold rf18 at h
 split at h
 ·rw [← r18_eq] at h
  exact kbody_sound (c := c18) (by kernel_rfl) (Eq.mpr (show _ = (And True (And True (And True (And (And True (And True (And B2 (And B3 (And B2 (And True (And B3 B2))))))) B2)))) by kernel_rfl) ⟨trivial, ⟨trivial, ⟨trivial, ⟨⟨trivial, ⟨trivial, ⟨q2, ⟨q3, ⟨q2, ⟨trivial, ⟨q3, q2⟩⟩⟩⟩⟩⟩⟩, q2⟩⟩⟩⟩) h
 ·simp at h
end Go.AM
namespace Go.AM
open Go Go.Proofs
noncomputable def r19_L8 (call : CallF) (fuel base : Nat) (kx8 : Value → Value → Value → Value → M → Res2) (n : Nat) : Value → Value → Value → Value → Value → Value → M → Res2 :=
 Nat.rec (motive := fun _ => Value → Value → Value → Value → Value → Value → M → Res2) (fun _ _ _ _ _ _ _ => none)
  (fun _ ih x0 x1 x9 x10 x11 x15 m =>
   (k2 (vcall E.P base m .len [22] [x11]) fun u54 m => (k1 (mbin E .lss 3 x15 u54) fun u55 => (kb u55 (k1 (mindexAddr E.P 22 x11 x15) fun u56 => (ks (xstore E.P base m 3 u56 (.int .i64 0)) fun m => (k1 (mbin E .add 3 x15 (.int .i64 1)) fun u57 => (ih x0 x1 x9 x10 x11 u57 m)))) (kx8 x0 x1 x9 x10 m))))) n
noncomputable def r19_L6 (call : CallF) (fuel base : Nat) (kp : Value → M → Res2) (kr : Value → M → Res2) (kx6 : Value → Value → Value → M → Res2) (n : Nat) : Value → Value → Value → Value → M → Res2 :=
 Nat.rec (motive := fun _ => Value → Value → Value → Value → M → Res2) (fun _ _ _ _ _ => none)
  (fun _ ih x0 x1 x9 x10 m =>
   (k1 (mnil x1) fun u40 => (k1 (mfieldAddr E.P 96 u40 0) fun u41 => (k1 (xload E.P m 22 u41) fun u42 => (k2 (vcall E.P base m .len [22] [u42]) fun u43 m => (k1 (mbin E .lss 3 x10 u43) fun u44 => (kb u44 (kc (call base 20 [x0, x9, x10] m) (fun u45 m => (k1 (mextract 0 u45) fun u46 => (k1 (mextract 1 u45) fun u47 => (kc (call base 21 [x1, x9, x10] m) (fun u48 m => (k1 (mextract 0 u48) fun u49 => (k1 (mextract 1 u48) fun u50 => (k1 (mbin E .neq 26 u47 u50) fun u51 => (kb u51 (kr (.bool false) m) (kc (call base 17 [u46, u49] m) (fun u52 m => (k1 (mun .not u52) fun u53 => (kb u53 (kr (.bool false) m) (r19_L8 call fuel base (fun w58 w59 w60 w61 m => (k1 (mbin E .add 3 w61 (.int .i64 1)) fun u62 => (ih w58 w59 w60 u62 m))) fuel x0 x1 x9 x10 u46 (.int .i64 0) m)))) (fun v m => kp v m))))))) (fun v m => kp v m))))) (fun v m => kp v m)) (kx6 x0 x1 x9 m)))))))) n
noncomputable def r19_L0 (call : CallF) (fuel base : Nat) (kx0 : Value → Value → Value → M → Res2) (n : Nat) : Value → Value → Value → Value → Value → M → Res2 :=
 Nat.rec (motive := fun _ => Value → Value → Value → Value → Value → M → Res2) (fun _ _ _ _ _ _ => none)
  (fun _ ih x0 x1 x5 x6 x7 m =>
   (k2 (vcall E.P base m .len [22] [x5]) fun u16 m => (k1 (mbin E .lss 3 x7 u16) fun u17 => (kb u17 (k1 (mindexAddr E.P 22 x5 x7) fun u18 => (k1 (xload E.P m 3 u18) fun u19 => (k1 (mbin E .add 3 u19 (.int .i64 1)) fun u20 => (k1 (mindexAddr E.P 22 x5 x7) fun u21 => (ks (xstore E.P base m 3 u21 u20) fun m => (k1 (mbin E .add 3 x7 (.int .i64 1)) fun u22 => (ih x0 x1 x5 x6 u22 m))))))) (kx0 x0 x1 x6 m))))) n
noncomputable def r19_L2 (call : CallF) (fuel base : Nat) (kx2 : Value → Value → M → Res2) (n : Nat) : Value → Value → Value → Value → M → Res2 :=
 Nat.rec (motive := fun _ => Value → Value → Value → Value → M → Res2) (fun _ _ _ _ _ => none)
  (fun _ ih x0 x1 x6 x8 m =>
   (k2 (vcall E.P base m .len [45] [x6]) fun u26 m => (k1 (mbin E .lss 3 x8 u26) fun u27 => (kb u27 (k1 (mindexAddr E.P 45 x6 x8) fun u28 => (k1 (mfieldAddr E.P 72 u28 4) fun u29 => (k1 (xload E.P m 22 u29) fun u30 => (k1 (mindexAddr E.P 22 u30 (.int .i64 0)) fun u31 => (ks (xstore E.P base m 3 u31 (.int .i64 99)) fun m => (k1 (mbin E .add 3 x8 (.int .i64 1)) fun u32 => (ih x0 x1 x6 u32 m))))))) (kx2 x0 x1 m))))) n
noncomputable def r19_L4 (call : CallF) (fuel base : Nat) (kp : Value → M → Res2) (kr : Value → M → Res2) (kx4 : Value → Value → M → Res2) (n : Nat) : Value → Value → Value → M → Res2 :=
 Nat.rec (motive := fun _ => Value → Value → Value → M → Res2) (fun _ _ _ _ => none)
  (fun _ ih x0 x1 x9 m =>
   (k1 (mnil x1) fun u35 => (k1 (mfieldAddr E.P 96 u35 0) fun u36 => (k1 (xload E.P m 22 u36) fun u37 => (k2 (vcall E.P base m .len [22] [u37]) fun u38 m => (k1 (mbin E .lss 3 x9 u38) fun u39 => (kb u39 (r19_L6 call fuel base (fun v m => kp v m) (fun w63 m => (kr w63 m)) (fun w64 w65 w66 m => (k1 (mbin E .add 3 w66 (.int .i64 1)) fun u67 => (ih w64 w65 u67 m))) fuel x0 x1 x9 (.int .i64 0) m) (kx4 x0 x1 m)))))))) n
noncomputable def r19_L10 (call : CallF) (fuel base : Nat) (kp : Value → M → Res2) (kr : Value → M → Res2) (kx10 : M → Res2) (n : Nat) : Value → Value → Value → M → Res2 :=
 Nat.rec (motive := fun _ => Value → Value → Value → M → Res2) (fun _ _ _ _ => none)
  (fun _ ih x0 x1 x16 m =>
   (k1 (mnil x1) fun u71 => (k1 (mfieldAddr E.P 96 u71 4) fun u72 => (k1 (xload E.P m 94 u72) fun u73 => (k2 (vcall E.P base m .len [94] [u73]) fun u74 m => (k1 (mbin E .leq 3 x16 u74) fun u75 => (kb u75 (kc (call base 22 [x0, x1, x16] m) (fun u76 m => (k1 (mun .not u76) fun u77 => (kb u77 (kr (.bool false) m) (k1 (mbin E .add 3 x16 (.int .i64 1)) fun u78 => (ih x0 x1 u78 m))))) (fun v m => kp v m)) (kx10 m)))))))) n
noncomputable def r19 (call : CallF) (fuel base : Nat) (x0 : Value) (x1 : Value) (m : M) : Res2 :=
 (kc (call base 33 [x0] m) (fun u1 m => (kc (call base 26 [x0] m) (fun u2 m => (k1 (mnil x1) fun u3 => (k1 (mfieldAddr E.P 96 u3 0) fun u4 => (k1 (xload E.P m 22 u4) fun u5 => (kc (call base 17 [u1, u5] m) (fun u6 m => (k1 (mun .not u6) fun u7 => (kb u7 (fVal (.bool false) fun v => some (.ret v, m)) (k1 (mnil x1) fun u8 => (k1 (mfieldAddr E.P 96 u8 3) fun u9 => (k1 (xload E.P m 45 u9) fun u10 => (kc (call base 57 [u2, u10] m) (fun u11 m => (k1 (mun .not u11) fun u12 => (kb u12 (fVal (.bool false) fun v => some (.ret v, m)) (kc (call base 28 [x0] m) (fun u13 m => (kc (call base 58 [x1] m) (fun u14 m => (k1 (mbin E .neq 3 u13 u14) fun u15 => (kb u15 (fVal (.bool false) fun v => some (.ret v, m)) (r19_L0 call fuel base (fun w23 w24 w25 m => (r19_L2 call fuel base (fun w33 w34 m => (r19_L4 call fuel base (fun v m => some (.pan v, m)) (fun w68 m => (fVal w68 fun v => some (.ret v, m))) (fun w69 w70 m => (r19_L10 call fuel base (fun v m => some (.pan v, m)) (fun w79 m => (fVal w79 fun v => some (.ret v, m))) (fun m => (fVal (.bool true) fun v => some (.ret v, m))) fuel w69 w70 (.int .i64 0) m)) fuel w33 w34 (.int .i64 0) m)) fuel w23 w24 w25 (.int .i64 0) m)) fuel x0 x1 u1 u2 (.int .i64 0) m)))) (fun v m => some (.pan v, m)))) (fun v m => some (.pan v, m)))))) (fun v m => some (.pan v, m))))))))) (fun v m => some (.pan v, m))))))) (fun v m => some (.pan v, m)))) (fun v m => some (.pan v, m)))
def keep19 : Keep := { region := fun i => ([[0, 1], [0, 1, 5, 6], [0, 1, 5, 6, 43], [4], [0, 1, 5, 6, 7], [0, 1, 5, 6, 7, 47], [0, 1, 5, 6, 7], [0, 1, 5, 6, 7], [0, 1, 6, 8], [0, 1, 6, 8, 59], [0, 1, 6, 8], [0, 1, 6, 8], [0, 1, 9], [0, 1, 9, 74], [0, 1, 9], [0, 1, 9, 10], [0, 1, 9, 10, 83], [0, 1, 9, 10], [0, 1, 9, 10, 11, 12], [0, 1, 9, 10, 11, 12, 13, 14], [0, 1, 9, 10, 11, 108], [4], [0, 1, 9, 10, 11, 15], [0, 1, 9, 10, 11, 15, 112], [0, 1, 9, 10, 11, 15], [0, 1, 9, 10, 11, 15], [0, 1, 16], [0, 1, 16, 124], [0, 1, 16], [0, 1, 16, 131], [4], [4]] : List (List Nat))[i]?, exit := fun i => ([[0, 1, 6], [0, 1, 5, 6, 7], [0, 1], [0, 1, 6, 8], [0, 1], [0, 1, 9], [0, 1, 9], [0, 1, 9, 10], [0, 1, 9, 10], [0, 1, 9, 10, 11, 15], [], [0, 1, 16]] : List (List Nat))[i]?, ret := some [4] }
noncomputable def r19_L8_R (call : CallF) (fuel base n : Nat) (vs : List Value) (m : M) (K : KT) : Res2 := match vs with
 | [x0, x1, x9, x10, x11, x15] => r19_L8 call fuel base (fun y0 y1 y9 y10 m => K (.exit 8) { n := 132, l := [(0, y0), (1, y1), (9, y9), (10, y10)] } m) n x0 x1 x9 x10 x11 x15 m
 | _ => none
noncomputable def r19_L6_R (call : CallF) (fuel base n : Nat) (vs : List Value) (m : M) (K : KT) : Res2 := match vs with
 | [x0, x1, x9, x10] => r19_L6 call fuel base (fun v m => K (.pan v) { n := 132, l := [] } m) (fun y4 m => K .ret { n := 132, l := [(4, y4)] } m) (fun y0 y1 y9 m => K (.exit 6) { n := 132, l := [(0, y0), (1, y1), (9, y9)] } m) n x0 x1 x9 x10 m
 | _ => none
noncomputable def r19_L0_R (call : CallF) (fuel base n : Nat) (vs : List Value) (m : M) (K : KT) : Res2 := match vs with
 | [x0, x1, x5, x6, x7] => r19_L0 call fuel base (fun y0 y1 y6 m => K (.exit 0) { n := 132, l := [(0, y0), (1, y1), (6, y6)] } m) n x0 x1 x5 x6 x7 m
 | _ => none
noncomputable def r19_L2_R (call : CallF) (fuel base n : Nat) (vs : List Value) (m : M) (K : KT) : Res2 := match vs with
 | [x0, x1, x6, x8] => r19_L2 call fuel base (fun y0 y1 m => K (.exit 2) { n := 132, l := [(0, y0), (1, y1)] } m) n x0 x1 x6 x8 m
 | _ => none
noncomputable def r19_L4_R (call : CallF) (fuel base n : Nat) (vs : List Value) (m : M) (K : KT) : Res2 := match vs with
 | [x0, x1, x9] => r19_L4 call fuel base (fun v m => K (.pan v) { n := 132, l := [] } m) (fun y4 m => K .ret { n := 132, l := [(4, y4)] } m) (fun y0 y1 m => K (.exit 4) { n := 132, l := [(0, y0), (1, y1)] } m) n x0 x1 x9 m
 | _ => none
noncomputable def r19_L10_R (call : CallF) (fuel base n : Nat) (vs : List Value) (m : M) (K : KT) : Res2 := match vs with
 | [x0, x1, x16] => r19_L10 call fuel base (fun v m => K (.pan v) { n := 132, l := [] } m) (fun y4 m => K .ret { n := 132, l := [(4, y4)] } m) (fun m => K (.exit 10) { n := 132, l := [] } m) n x0 x1 x16 m
 | _ => none
noncomputable def lp19 (call : CallF) (fuel base : Nat) : Lp := lpsel [(8, fun T m K => kslots 132 [0, 1, 9, 10, 11, 15] T fun vs => r19_L8_R call fuel base fuel vs m K), (6, fun T m K => kslots 132 [0, 1, 9, 10] T fun vs => r19_L6_R call fuel base fuel vs m K), (0, fun T m K => kslots 132 [0, 1, 5, 6, 7] T fun vs => r19_L0_R call fuel base fuel vs m K), (2, fun T m K => kslots 132 [0, 1, 6, 8] T fun vs => r19_L2_R call fuel base fuel vs m K), (4, fun T m K => kslots 132 [0, 1, 9] T fun vs => r19_L4_R call fuel base fuel vs m K), (10, fun T m K => kslots 132 [0, 1, 16] T fun vs => r19_L10_R call fuel base fuel vs m K)]
noncomputable def c19 : Code := Try.f19.body.getD .skip
noncomputable def p19_0 : Code := loopB (blockB (seqR (seqL (seqR (seqR (seqR c19))))))
noncomputable def p19_2 : Code := loopB (blockB (seqR (seqL (seqR (seqR (seqR (seqR c19)))))))
noncomputable def p19_4 : Code := loopB (blockB (seqR (seqL (seqR (seqR (seqR (seqR (seqR c19))))))))
noncomputable def p19_6 : Code := loopB (blockB (seqR (blockB (seqL (seqR (loopB (blockB (seqR (seqL (seqR (seqR (seqR (seqR (seqR c19))))))))))))))
noncomputable def p19_8 : Code := loopB (blockB (seqR (seqR (seqR (seqR (blockB (seqL (seqR (loopB (blockB (seqR (blockB (seqL (seqR (loopB (blockB (seqR (seqL (seqR (seqR (seqR (seqR (seqR c19)))))))))))))))))))))))
noncomputable def p19_10 : Code := loopB (blockB (seqR (seqL (seqR (seqR (seqR (seqR (seqR (seqR c19)))))))))
theorem r19_L8_ok (call : CallF) (fuel base : Nat) : LQ lp19 call fuel base 8 p19_8 := by
 refine loop_ok (kp := keep19) (hb := Eq.mpr (show _ = (And B3 B2) by kernel_rfl) ⟨q3, q2⟩) 132 [0, 1, 9, 10, 11, 15] (r19_L8_R call fuel base) ?_ ?_ (fun _ _ _ => rfl)
 ·intro vs m K
  unfold r19_L8_R
  split <;> rfl
 ·intro n vs m K hl
  match vs, hl with
  | [x0, x1, x9, x10, x11, x15], _ => show _ = _; kernel_rfl
theorem r19_L6_ok (call : CallF) (fuel base : Nat) : LQ lp19 call fuel base 6 p19_6 := by
 refine loop_ok (kp := keep19) (hb := Eq.mpr (show _ = (And B3 (And (And True (And True (And D3 (And True (LQ lp19 call fuel base 8 p19_8))))) True)) by kernel_rfl) ⟨q3, ⟨⟨trivial, ⟨trivial, ⟨e3, ⟨trivial, (r19_L8_ok call fuel base)⟩⟩⟩⟩, trivial⟩⟩) 132 [0, 1, 9, 10] (r19_L6_R call fuel base) ?_ ?_ (fun _ _ _ => rfl)
 ·intro vs m K
  unfold r19_L6_R
  split <;> rfl
 ·intro n vs m K hl
  match vs, hl with
  | [x0, x1, x9, x10], _ => show _ = _; kernel_rfl
theorem r19_L0_ok (call : CallF) (fuel base : Nat) : LQ lp19 call fuel base 0 p19_0 := by
 refine loop_ok (kp := keep19) (hb := Eq.mpr (show _ = (And B3 B2) by kernel_rfl) ⟨q3, q2⟩) 132 [0, 1, 5, 6, 7] (r19_L0_R call fuel base) ?_ ?_ (fun _ _ _ => rfl)
 ·intro vs m K
  unfold r19_L0_R
  split <;> rfl
 ·intro n vs m K hl
  match vs, hl with
  | [x0, x1, x5, x6, x7], _ => show _ = _; kernel_rfl
theorem r19_L2_ok (call : CallF) (fuel base : Nat) : LQ lp19 call fuel base 2 p19_2 := by
 refine loop_ok (kp := keep19) (hb := Eq.mpr (show _ = (And B3 B2) by kernel_rfl) ⟨q3, q2⟩) 132 [0, 1, 6, 8] (r19_L2_R call fuel base) ?_ ?_ (fun _ _ _ => rfl)
 ·intro vs m K
  unfold r19_L2_R
  split <;> rfl
 ·intro n vs m K hl
  match vs, hl with
  | [x0, x1, x6, x8], _ => show _ = _; kernel_rfl
theorem r19_L4_ok (call : CallF) (fuel base : Nat) : LQ lp19 call fuel base 4 p19_4 := by
 refine loop_ok (kp := keep19) (hb := Eq.mpr (show _ = (And B3 (And (And True (LQ lp19 call fuel base 6 p19_6)) True)) by kernel_rfl) ⟨q3, ⟨⟨trivial, (r19_L6_ok call fuel base)⟩, trivial⟩⟩) 132 [0, 1, 9] (r19_L4_R call fuel base) ?_ ?_ (fun _ _ _ => rfl)
 ·intro vs m K
  unfold r19_L4_R
  split <;> rfl
 ·intro n vs m K hl
  match vs, hl with
  | [x0, x1, x9], _ => show _ = _; kernel_rfl
theorem r19_L10_ok (call : CallF) (fuel base : Nat) : LQ lp19 call fuel base 10 p19_10 := by
 refine loop_ok (kp := keep19) (hb := Eq.mpr (show _ = (And B3 (And D3 True)) by kernel_rfl) ⟨q3, ⟨e3, trivial⟩⟩) 132 [0, 1, 16] (r19_L10_R call fuel base) ?_ ?_ (fun _ _ _ => rfl)
 ·intro vs m K
  unfold r19_L10_R
  split <;> rfl
 ·intro n vs m K hl
  match vs, hl with
  | [x0, x1, x16], _ => show _ = _; kernel_rfl
theorem r19_eq (call : CallF) (fuel base : Nat) (x0 : Value) (x1 : Value) (m : M) : kbody E call keep19 (lp19 call fuel base) base Try.f19 [x0, x1] m = r19 call fuel base x0 x1 m := by
 kernel_rfl
noncomputable def rf19 : RF := fun call fuel base args m => match args with
 | [x0, x1] => r19 call fuel base x0 x1 m
 | _ => none
theorem rf19_ok : RFok E 19 rf19 := by
 show RFok' E 19 rf19
 refine ⟨Try.f19, (by kernel_rfl), fun call fuel base args m r _ h => ?_⟩
 unfold rf19 at h
 split at h
 ·rw [← r19_eq] at h
  exact kbody_sound (c := c19) (by kernel_rfl) (Eq.mpr (show _ = (And True (And True (And D3 (And (And True (LQ lp19 call fuel base 0 p19_0)) (And (And True (LQ lp19 call fuel base 2 p19_2)) (And (And True (LQ lp19 call fuel base 4 p19_4)) (And (And True (LQ lp19 call fuel base 10 p19_10)) B2))))))) by kernel_rfl) ⟨trivial, ⟨trivial, ⟨e3, ⟨⟨trivial, (r19_L0_ok call fuel base)⟩, ⟨⟨trivial, (r19_L2_ok call fuel base)⟩, ⟨⟨trivial, (r19_L4_ok call fuel base)⟩, ⟨⟨trivial, (r19_L10_ok call fuel base)⟩, q2⟩⟩⟩⟩⟩⟩⟩) h
 ·simp at h
end Go.AM
namespace Go.AM
open Go Go.Proofs
noncomputable def r20_L0 (call : CallF) (fuel base : Nat) (kp : Value → M → Res2) (kx0 : Value → M → Res2) (n : Nat) : Value → Value → Value → Value → M → Res2 :=
 Nat.rec (motive := fun _ => Value → Value → Value → Value → M → Res2) (fun _ _ _ _ _ => none)
  (fun _ ih x9 x28 x29 x30 m =>
   (k1 (mbin E .lss 3 x30 x29) fun u11 => (kb u11 (k1 (mindexAddr E.P 103 x28 x30) fun u12 => (k1 (xload E.P m 106 u12) fun u13 => (kc (kv call base (imeth 0 u13) [] m) (fun u14 m => (k2 (xbuildSlice E.P m 22 1 [(0, u14)]) fun u15 m => (k2 (vcall E.P base m .append [22, 22] [x9, u15]) fun u16 m => (k1 (mbin E .add 3 x30 (.int .i64 1)) fun u17 => (ih u16 x28 x29 u17 m))))) (fun v m => kp v m)))) (kx0 x9 m)))) n
noncomputable def r20 (call : CallF) (fuel base : Nat) (x0 : Value) (x1 : Value) (x2 : Value) (m : M) : Res2 :=
 (kc (call base 59 [x0, x1, x2] m) (fun u1 m => (k1 (mbin E .neq 26 u1 (.int .i64 0)) fun u2 => (kb u2 (some (.ret (.tuple #[(.slice none 0 0), u1]), m)) (k1 (mnil x0) fun u3 => (k1 (mfieldAddr E.P 57 u3 1) fun u4 => (k1 (xload E.P m 54 u4) fun u5 => (k1 (mindexAddr E.P 54 u5 x1) fun u6 => (k1 (xload E.P m 104 u6) fun u7 => (k1 (mindexAddr E.P 104 u7 x2) fun u8 => (k1 (xload E.P m 103 u8) fun u9 => (k2 (vcall E.P base m .len [103] [u9]) fun u10 m => (r20_L0 call fuel base (fun v m => some (.pan v, m)) (fun w18 m => (some (.ret (.tuple #[w18, (.int .i64 0)]), m))) fuel (.slice none 0 0) u9 u10 (.int .i64 0) m)))))))))))) (fun v m => some (.pan v, m)))
def keep20 : Keep := { region := fun i => ([[0, 1, 2], [0, 1, 2, 8], [0, 1, 2, 8, 17], [6, 7], [0, 1, 2, 9], [9, 28, 29, 30], [9, 28, 29, 30, 31], [9, 11, 28, 29, 30], [9, 28, 29, 30], [9, 28, 29, 30], [6, 7]] : List (List Nat))[i]?, exit := fun i => ([[9], [9, 28, 29, 30]] : List (List Nat))[i]?, ret := some [6, 7] }
noncomputable def r20_L0_R (call : CallF) (fuel base n : Nat) (vs : List Value) (m : M) (K : KT) : Res2 := match vs with
 | [x9, x28, x29, x30] => r20_L0 call fuel base (fun v m => K (.pan v) { n := 41, l := [] } m) (fun y9 m => K (.exit 0) { n := 41, l := [(9, y9)] } m) n x9 x28 x29 x30 m
 | _ => none
noncomputable def lp20 (call : CallF) (fuel base : Nat) : Lp := lpsel [(0, fun T m K => kslots 41 [9, 28, 29, 30] T fun vs => r20_L0_R call fuel base fuel vs m K)]
noncomputable def c20 : Code := Try.f20.body.getD .skip
noncomputable def p20_0 : Code := loopB (blockB (seqR (seqL (seqR (seqR (seqR c20))))))
theorem r20_L0_ok (call : CallF) (fuel base : Nat) : LQ lp20 call fuel base 0 p20_0 := by
 refine loop_ok (kp := keep20) (hb := Eq.mpr (show _ = (And True (And B2 D2)) by kernel_rfl) ⟨trivial, ⟨q2, e2⟩⟩) 41 [9, 28, 29, 30] (r20_L0_R call fuel base) ?_ ?_ (fun _ _ _ => rfl)
 ·intro vs m K
  unfold r20_L0_R
  split <;> rfl
 ·intro n vs m K hl
  match vs, hl with
  | [x9, x28, x29, x30], _ => show _ = _; kernel_rfl
theorem r20_eq (call : CallF) (fuel base : Nat) (x0 : Value) (x1 : Value) (x2 : Value) (m : M) : kbody E call keep20 (lp20 call fuel base) base Try.f20 [x0, x1, x2] m = r20 call fuel base x0 x1 x2 m := by
 kernel_rfl
noncomputable def rf20 : RF := fun call fuel base args m => match args with
 | [x0, x1, x2] => r20 call fuel base x0 x1 x2 m
 | _ => none
theorem rf20_ok : RFok E 20 rf20 := by
 show RFok' E 20 rf20
 refine ⟨Try.f20, (by kernel_rfl), fun call fuel base args m r _ h => ?_⟩
 unfold rf20 at h
 split at h
 ·rw [← r20_eq] at h
  exact kbody_sound (c := c20) (by kernel_rfl) (Eq.mpr (show _ = (And True (And (And True D3) (And True (And (And True (LQ lp20 call fuel base 0 p20_0)) B2)))) by kernel_rfl) ⟨trivial, ⟨⟨trivial, e3⟩, ⟨trivial, ⟨⟨trivial, (r20_L0_ok call fuel base)⟩, q2⟩⟩⟩⟩) h
 ·simp at h
end Go.AM
namespace Go.AM
open Go Go.Proofs
noncomputable def r21_L0 (call : CallF) (fuel base : Nat) (kx0 : Value → M → Res2) (n : Nat) : Value → Value → Value → Value → Value → M → Res2 :=
 Nat.rec (motive := fun _ => Value → Value → Value → Value → Value → M → Res2) (fun _ _ _ _ _ _ => none)
  (fun _ ih x0 x1 x2 x8 x9 m =>
   (k1 (mnil x0) fun u3 => (k1 (mfieldAddr E.P 96 u3 2) fun u4 => (k1 (xload E.P m 93 u4) fun u5 => (k1 (mindexAddr E.P 93 u5 x1) fun u6 => (k1 (xload E.P m 97 u6) fun u7 => (k1 (mindexAddr E.P 97 u7 x2) fun u8 => (k1 (xload E.P m 107 u8) fun u9 => (k2 (vcall E.P base m .len [107] [u9]) fun u10 m => (k1 (mbin E .lss 3 x9 u10) fun u11 => (kb u11 (k1 (mnil x0) fun u12 => (k1 (mfieldAddr E.P 96 u12 2) fun u13 => (k1 (xload E.P m 93 u13) fun u14 => (k1 (mindexAddr E.P 93 u14 x1) fun u15 => (k1 (xload E.P m 97 u15) fun u16 => (k1 (mindexAddr E.P 97 u16 x2) fun u17 => (k1 (xload E.P m 107 u17) fun u18 => (k1 (mindexAddr E.P 107 u18 x9) fun u19 => (k1 (mfieldAddr E.P 109 u19 0) fun u20 => (k1 (xload E.P m 3 u20) fun u21 => (k2 (xbuildSlice E.P m 22 1 [(0, u21)]) fun u22 m => (k2 (vcall E.P base m .append [22, 22] [x8, u22]) fun u23 m => (k1 (mbin E .add 3 x9 (.int .i64 1)) fun u24 => (ih x0 x1 x2 u23 u24 m)))))))))))))) (kx0 x8 m)))))))))))) n
noncomputable def r21 (call : CallF) (fuel base : Nat) (x0 : Value) (x1 : Value) (x2 : Value) (m : M) : Res2 :=
 (kc (call base 60 [x0, x1, x2] m) (fun u1 m => (k1 (mbin E .neq 26 u1 (.int .i64 0)) fun u2 => (kb u2 (some (.ret (.tuple #[(.slice none 0 0), (.int .i64 2)]), m)) (r21_L0 call fuel base (fun w25 m => (some (.ret (.tuple #[w25, (.int .i64 0)]), m))) fuel x0 x1 x2 (.slice none 0 0) (.int .i64 0) m)))) (fun v m => some (.pan v, m)))
def keep21 : Keep := { region := fun i => ([[0, 1, 2], [0, 1, 2, 14], [6, 7], [0, 1, 2, 8], [0, 1, 2, 8, 9], [0, 1, 2, 8, 9, 27], [0, 1, 2, 8, 9], [0, 1, 2, 8, 9], [6, 7]] : List (List Nat))[i]?, exit := fun i => ([[8], [0, 1, 2, 8, 9]] : List (List Nat))[i]?, ret := some [6, 7] }
noncomputable def r21_L0_R (call : CallF) (fuel base n : Nat) (vs : List Value) (m : M) (K : KT) : Res2 := match vs with
 | [x0, x1, x2, x8, x9] => r21_L0 call fuel base (fun y8 m => K (.exit 0) { n := 48, l := [(8, y8)] } m) n x0 x1 x2 x8 x9 m
 | _ => none
noncomputable def lp21 (call : CallF) (fuel base : Nat) : Lp := lpsel [(0, fun T m K => kslots 48 [0, 1, 2, 8, 9] T fun vs => r21_L0_R call fuel base fuel vs m K)]
noncomputable def c21 : Code := Try.f21.body.getD .skip
noncomputable def p21_0 : Code := loopB (blockB (seqR (seqL (seqR (seqR (seqR c21))))))
theorem r21_L0_ok (call : CallF) (fuel base : Nat) : LQ lp21 call fuel base 0 p21_0 := by
 refine loop_ok (kp := keep21) (hb := Eq.mpr (show _ = (And B3 B2) by kernel_rfl) ⟨q3, q2⟩) 48 [0, 1, 2, 8, 9] (r21_L0_R call fuel base) ?_ ?_ (fun _ _ _ => rfl)
 ·intro vs m K
  unfold r21_L0_R
  split <;> rfl
 ·intro n vs m K hl
  match vs, hl with
  | [x0, x1, x2, x8, x9], _ => show _ = _; kernel_rfl
theorem r21_eq (call : CallF) (fuel base : Nat) (x0 : Value) (x1 : Value) (x2 : Value) (m : M) : kbody E call keep21 (lp21 call fuel base) base Try.f21 [x0, x1, x2] m = r21 call fuel base x0 x1 x2 m := by
 kernel_rfl
noncomputable def rf21 : RF := fun call fuel base args m => match args with
 | [x0, x1, x2] => r21 call fuel base x0 x1 x2 m
 | _ => none
theorem rf21_ok : RFok E 21 rf21 := by
 show RFok' E 21 rf21
 refine ⟨Try.f21, (by kernel_rfl), fun call fuel base args m r _ h => ?_⟩
 unfold rf21 at h
 split at h
 ·rw [← r21_eq] at h
  exact kbody_sound (c := c21) (by kernel_rfl) (Eq.mpr (show _ = (And True (And D3 (And True (And (And True (LQ lp21 call fuel base 0 p21_0)) B2)))) by kernel_rfl) ⟨trivial, ⟨e3, ⟨trivial, ⟨⟨trivial, (r21_L0_ok call fuel base)⟩, q2⟩⟩⟩⟩) h
 ·simp at h
end Go.AM
namespace Go.AM
open Go Go.Proofs
noncomputable def r22_L0 (call : CallF) (fuel base : Nat) (kx0 : M → Res2) (n : Nat) : Value → Value → Value → M → Res2 :=
 Nat.rec (motive := fun _ => Value → Value → Value → M → Res2) (fun _ _ _ _ => none)
  (fun _ ih x11 x13 x15 m =>
   (k1 (mfieldAddr E.P 62 x11 0) fun u31 => (k1 (xload E.P m 22 u31) fun u32 => (k2 (vcall E.P base m .len [22] [u32]) fun u33 m => (k1 (mbin E .lss 3 x15 u33) fun u34 => (kb u34 (k1 (mfieldAddr E.P 62 x11 0) fun u35 => (k1 (xload E.P m 22 u35) fun u36 => (k1 (mindexAddr E.P 22 u36 x15) fun u37 => (k1 (xload E.P m 3 u37) fun u38 => (k1 (mbin E .add 3 u38 (.int .i64 1)) fun u39 => (k1 (mindexAddr E.P 22 u36 x15) fun u40 => (ks (xstore E.P base m 3 u40 u39) fun m => (k1 (mindexAddr E.P 22 x13 x15) fun u41 => (k1 (xload E.P m 3 u41) fun u42 => (k1 (mbin E .add 3 u42 (.int .i64 1)) fun u43 => (k1 (mindexAddr E.P 22 x13 x15) fun u44 => (ks (xstore E.P base m 3 u44 u43) fun m => (k1 (mbin E .add 3 x15 (.int .i64 1)) fun u45 => (ih x11 x13 u45 m)))))))))))))) (kx0 m))))))) n
noncomputable def r22 (call : CallF) (fuel base : Nat) (x0 : Value) (x1 : Value) (x2 : Value) (m : M) : Res2 :=
 (kc (call base 30 [x0, x2] m) (fun u1 m => (k1 (mextract 0 u1) fun u2 => (k1 (mextract 1 u1) fun u3 => (kc (call base 61 [x1, x2] m) (fun u4 m => (k1 (mextract 0 u4) fun u5 => (k1 (mextract 1 u4) fun u6 => (k1 (mbin E .neq 4 u2 u5) fun u7 => (kb u7 (fVal (.bool false) fun v => some (.ret v, m)) (k1 (mbin E .neq 26 u3 u6) fun u8 => (kb u8 (fVal (.bool false) fun v => some (.ret v, m)) (kc (call base 31 [x0, x2] m) (fun u9 m => (k1 (mextract 0 u9) fun u10 => (k1 (mextract 1 u9) fun u11 => (k2 (xalloc E.P m 62) fun u12 m => (ks (xstore E.P base m 62 u12 u10) fun m => (kc (call base 62 [x1, x2] m) (fun u13 m => (k1 (mextract 0 u13) fun u14 => (k1 (mextract 1 u13) fun u15 => (k2 (xalloc E.P m 62) fun u16 m => (ks (xstore E.P base m 62 u16 u14) fun m => (k1 (mbin E .neq 26 u11 u15) fun u17 => (kb u17 (fVal (.bool false) fun v => some (.ret v, m)) (k1 (xload E.P m 62 u12) fun u18 => (k1 (xload E.P m 62 u16) fun u19 => (kc (call base 63 [u18, u19] m) (fun u20 m => (k1 (mun .not u20) fun u21 => (kb u21 (fVal (.bool false) fun v => some (.ret v, m)) (kc (call base 32 [x0, x2] m) (fun u22 m => (k1 (mextract 0 u22) fun u23 => (k1 (mextract 1 u22) fun u24 => (kc (call base 64 [x1, x2] m) (fun u25 m => (k1 (mextract 0 u25) fun u26 => (k1 (mextract 1 u25) fun u27 => (k1 (mbin E .neq 26 u24 u27) fun u28 => (kb u28 (fVal (.bool false) fun v => some (.ret v, m)) (kc (call base 17 [u23, u26] m) (fun u29 m => (k1 (mun .not u29) fun u30 => (kb u30 (fVal (.bool false) fun v => some (.ret v, m)) (r22_L0 call fuel base (fun m => (fVal (.bool true) fun v => some (.ret v, m))) fuel u12 u23 (.int .i64 0) m)))) (fun v m => some (.pan v, m)))))))) (fun v m => some (.pan v, m)))))) (fun v m => some (.pan v, m)))))) (fun v m => some (.pan v, m)))))))))))) (fun v m => some (.pan v, m)))))))) (fun v m => some (.pan v, m)))))))))) (fun v m => some (.pan v, m)))))) (fun v m => some (.pan v, m)))
def keep22 : Keep := { region := fun i => ([[0, 1, 2], [0, 1, 2, 7, 8], [0, 1, 2, 7, 8, 9, 10], [0, 1, 2, 35], [6], [0, 1, 2, 8, 11], [0, 1, 2, 8, 10, 11, 12], [0, 1, 2, 11, 56], [6], [1, 2, 8, 11, 13], [8, 10, 11, 13, 14], [11, 13, 77], [6], [11, 13, 15], [11, 13, 15, 82], [11, 13, 15], [11, 13, 15], [11, 13, 15], [6]] : List (List Nat))[i]?, exit := fun i => ([[], [11, 13, 15]] : List (List Nat))[i]?, ret := some [6] }
noncomputable def r22_L0_R (call : CallF) (fuel base n : Nat) (vs : List Value) (m : M) (K : KT) : Res2 := match vs with
 | [x11, x13, x15] => r22_L0 call fuel base (fun m => K (.exit 0) { n := 98, l := [] } m) n x11 x13 x15 m
 | _ => none
noncomputable def lp22 (call : CallF) (fuel base : Nat) : Lp := lpsel [(0, fun T m K => kslots 98 [11, 13, 15] T fun vs => r22_L0_R call fuel base fuel vs m K)]
noncomputable def c22 : Code := Try.f22.body.getD .skip
noncomputable def p22_0 : Code := loopB (blockB (seqR (seqL (seqR (seqR (seqR (seqR (seqR (seqR (seqR (seqR (seqR (seqR c22)))))))))))))
theorem r22_L0_ok (call : CallF) (fuel base : Nat) : LQ lp22 call fuel base 0 p22_0 := by
 refine loop_ok (kp := keep22) (hb := Eq.mpr (show _ = (And B3 D2) by kernel_rfl) ⟨q3, e2⟩) 98 [11, 13, 15] (r22_L0_R call fuel base) ?_ ?_ (fun _ _ _ => rfl)
 ·intro vs m K
  unfold r22_L0_R
  split <;> rfl
 ·intro n vs m K hl
  match vs, hl with
  | [x11, x13, x15], _ => show _ = _; kernel_rfl
theorem r22_eq (call : CallF) (fuel base : Nat) (x0 : Value) (x1 : Value) (x2 : Value) (m : M) : kbody E call keep22 (lp22 call fuel base) base Try.f22 [x0, x1, x2] m = r22 call fuel base x0 x1 x2 m := by
 kernel_rfl
noncomputable def rf22 : RF := fun call fuel base args m => match args with
 | [x0, x1, x2] => r22 call fuel base x0 x1 x2 m
 | _ => none
theorem rf22_ok : RFok E 22 rf22 := by
 show RFok' E 22 rf22
 refine ⟨Try.f22, (by kernel_rfl), fun call fuel base args m r _ h => ?_⟩
 unfold rf22 at h
 split at h
 ·rw [← r22_eq] at h
  exact kbody_sound (c := c22) (by kernel_rfl) (Eq.mpr (show _ = (And True (And True (And True (And D3 (And True (And True (And D3 (And True (And True (And D3 (And (And True (LQ lp22 call fuel base 0 p22_0)) B2))))))))))) by kernel_rfl) ⟨trivial, ⟨trivial, ⟨trivial, ⟨e3, ⟨trivial, ⟨trivial, ⟨e3, ⟨trivial, ⟨trivial, ⟨e3, ⟨⟨trivial, (r22_L0_ok call fuel base)⟩, q2⟩⟩⟩⟩⟩⟩⟩⟩⟩⟩⟩) h
 ·simp at h
end Go.AM
namespace Go.AM
open Go Go.Proofs
noncomputable def r23 (call : CallF) (fuel base : Nat) (x0 : Value) (x1 : Value) (x2 : Value) (x3 : Value) (m : M) : Res2 :=
 (kc (call base 59 [x0, x1, x2] m) (fun u1 m => (k1 (mbin E .neq 26 u1 (.int .i64 0)) fun u2 => (kb u2 (fVal u1 fun v => some (.ret v, m)) (kc (call base 65 [x3] m) (fun u3 m => (k1 (mun .not u3) fun u4 => (kb u4 (fVal (.int .i64 2) fun v => some (.ret v, m)) (k1 (mnil x0) fun u5 => (k1 (mfieldAddr E.P 57 u5 0) fun u6 => (k1 (xload E.P m 53 u6) fun u7 => (k1 (mindexAddr E.P 53 u7 x1) fun u8 => (k1 (mfieldAddr E.P 114 u8 0) fun u9 => (k1 (xload E.P m 3 u9) fun u10 => (k1 (mbin E .lss 3 u10 x3) fun u11 => (kb u11 (fVal (.int .i64 10) fun v => some (.ret v, m)) (kc (call base 66 [x0] m) (fun u12 m => (kb u12 (fVal (.int .i64 8) fun v => some (.ret v, m)) (kc (call base 67 [x0, x1, x2, x3] m) (fun u13 m => (fVal (.int .i64 0) fun v => some (.ret v, m))) (fun v m => some (.pan v, m))))) (fun v m => some (.pan v, m)))))))))))))) (fun v m => some (.pan v, m)))))) (fun v m => some (.pan v, m)))
def keep23 : Keep := { region := fun i => ([[0, 1, 2, 3], [0, 1, 2, 3, 9], [0, 1, 2, 3, 9, 15], [8], [0, 1, 2, 3, 19], [8], [0, 1, 2, 3, 29], [8], [0, 1, 2, 3, 31], [8], [], [8]] : List (List Nat))[i]?, exit := fun i => ([] : List (List Nat))[i]?, ret := some [8] }
noncomputable def lp23 (call : CallF) (fuel base : Nat) : Lp := lpsel []
noncomputable def c23 : Code := Try.f23.body.getD .skip
theorem r23_eq (call : CallF) (fuel base : Nat) (x0 : Value) (x1 : Value) (x2 : Value) (x3 : Value) (m : M) : kbody E call keep23 (lp23 call fuel base) base Try.f23 [x0, x1, x2, x3] m = r23 call fuel base x0 x1 x2 x3 m := by
 kernel_rfl
noncomputable def rf23 : RF := fun call fuel base args m => match args with
 | [x0, x1, x2, x3] => r23 call fuel base x0 x1 x2 x3 m
 | _ => none
theorem rf23_ok : RFok E 23 rf23 := by
 show RFok' E 23 rf23
 refine ⟨Try.f23, (by kernel_rfl), fun call fuel base args m r _ h => ?_⟩
 unfold rf23 at h
 split at h
 ·rw [← r23_eq] at h
  exact kbody_sound (c := c23) (by kernel_rfl) (Eq.mpr (show _ = (And True (And (And True D3) (And D3 (And D3 (And D3 B3))))) by kernel_rfl) ⟨trivial, ⟨⟨trivial, e3⟩, ⟨e3, ⟨e3, ⟨e3, q3⟩⟩⟩⟩⟩) h
 ·simp at h
end Go.AM
namespace Go.AM
open Go Go.Proofs
noncomputable def r24 (call : CallF) (fuel base : Nat) (x0 : Value) (x1 : Value) (x2 : Value) (m : M) : Res2 :=
 (kc (call base 68 [x0] m) (fun u1 m => (kb u1 (fVal (.int .i64 1) fun v => some (.ret v, m)) (kc (call base 69 [x0, x1] m) (fun u2 m => (k1 (mun .not u2) fun u3 => (kb u3 (fVal (.int .i64 2) fun v => some (.ret v, m)) (kc (call base 65 [x2] m) (fun u4 m => (k1 (mun .not u4) fun u5 => (kb u5 (fVal (.int .i64 2) fun v => some (.ret v, m)) (kc (call base 66 [x0] m) (fun u6 m => (kb u6 (fVal (.int .i64 8) fun v => some (.ret v, m)) (kc (call base 70 [x0, x1, x2] m) (fun u7 m => (fVal (.int .i64 0) fun v => some (.ret v, m))) (fun v m => some (.pan v, m))))) (fun v m => some (.pan v, m)))))) (fun v m => some (.pan v, m)))))) (fun v m => some (.pan v, m))))) (fun v m => some (.pan v, m)))
def keep24 : Keep := { region := fun i => ([[0, 1, 2], [0, 1, 2, 8], [6], [0, 1, 2, 17], [6], [0, 1, 2, 19], [6], [], [6]] : List (List Nat))[i]?, exit := fun i => ([] : List (List Nat))[i]?, ret := some [6] }
noncomputable def lp24 (call : CallF) (fuel base : Nat) : Lp := lpsel []
noncomputable def c24 : Code := Try.f24.body.getD .skip
theorem r24_eq (call : CallF) (fuel base : Nat) (x0 : Value) (x1 : Value) (x2 : Value) (m : M) : kbody E call keep24 (lp24 call fuel base) base Try.f24 [x0, x1, x2] m = r24 call fuel base x0 x1 x2 m := by
 kernel_rfl
noncomputable def rf24 : RF := fun call fuel base args m => match args with
 | [x0, x1, x2] => r24 call fuel base x0 x1 x2 m
 | _ => none
theorem rf24_ok : RFok E 24 rf24 := by
 show RFok' E 24 rf24
 refine ⟨Try.f24, (by kernel_rfl), fun call fuel base args m r _ h => ?_⟩
 unfold rf24 at h
 split at h
 ·rw [← r24_eq] at h
  exact kbody_sound (c := c24) (by kernel_rfl) (Eq.mpr (show _ = (And True (And D3 (And D3 (And D3 B3)))) by kernel_rfl) ⟨trivial, ⟨e3, ⟨e3, ⟨e3, q3⟩⟩⟩⟩) h
 ·simp at h
end Go.AM
namespace Go.AM
open Go Go.Proofs
noncomputable def r25 (call : CallF) (fuel base : Nat) (x0 : Value) (x1 : Value) (x2 : Value) (m : M) : Res2 :=
 (kc (call base 59 [x0, x1, x2] m) (fun u1 m => (k1 (mbin E .neq 26 u1 (.int .i64 0)) fun u2 => (kb u2 (fVal u1 fun v => some (.ret v, m)) (k1 (mnil x0) fun u3 => (k1 (mfieldAddr E.P 57 u3 1) fun u4 => (k1 (xload E.P m 54 u4) fun u5 => (k1 (mindexAddr E.P 54 u5 x1) fun u6 => (k1 (xload E.P m 104 u6) fun u7 => (k1 (mindexAddr E.P 104 u7 x2) fun u8 => (k1 (xload E.P m 103 u8) fun u9 => (k2 (vcall E.P base m .len [103] [u9]) fun u10 m => (k1 (mbin E .eql 3 u10 (.int .i64 0)) fun u11 => (kb u11 (fVal (.int .i64 6) fun v => some (.ret v, m)) (k1 (mindexAddr E.P 103 u9 (.int .i64 0)) fun u12 => (k1 (xload E.P m 106 u12) fun u13 => (k1 (mtassert E.P 117 true u13) fun u14 => (k1 (mextract 1 u14) fun u15 => (k1 (mextract 0 u14) fun u16 => (kb u15 (k2 (xalloc E.P m 117) fun u17 m => (ks (xstore E.P base m 117 u17 u16) fun m => (kc (call base 66 [x0] m) (fun u18 m => (kb u18 (fVal (.int .i64 8) fun v => some (.ret v, m)) (k1 (xload E.P m 117 u17) fun u19 => (kc (call base 71 [x0, x1, x2, u19] m) (fun u20 m => (k1 (mnil x0) fun u21 => (k1 (mfieldAddr E.P 57 u21 1) fun u22 => (k1 (xload E.P m 54 u22) fun u23 => (k1 (mindexAddr E.P 54 u23 x1) fun u24 => (k1 (xload E.P m 104 u24) fun u25 => (k1 (mslice E.P m 103 u9 (some (.int .i64 1)) none none) fun u26 => (k1 (mindexAddr E.P 104 u25 x2) fun u27 => (ks (xstore E.P base m 103 u27 u26) fun m => (fVal (.int .i64 0) fun v => some (.ret v, m))))))))))) (fun v m => some (.pan v, m)))))) (fun v m => some (.pan v, m))))) (k1 (mtassert E.P 120 true u13) fun u28 => (k1 (mextract 1 u28) fun u29 => (k1 (mextract 0 u28) fun u30 => (kb u29 (k2 (xalloc E.P m 120) fun u31 m => (ks (xstore E.P base m 120 u31 u30) fun m => (k1 (xload E.P m 120 u31) fun u32 => (kc (call base 72 [x0, x1, x2, u32] m) (fun u33 m => (k1 (mnil x0) fun u34 => (k1 (mfieldAddr E.P 57 u34 1) fun u35 => (k1 (xload E.P m 54 u35) fun u36 => (k1 (mindexAddr E.P 54 u36 x1) fun u37 => (k1 (xload E.P m 104 u37) fun u38 => (k1 (mslice E.P m 103 u9 (some (.int .i64 1)) none none) fun u39 => (k1 (mindexAddr E.P 104 u38 x2) fun u40 => (ks (xstore E.P base m 103 u40 u39) fun m => (fVal (.int .i64 0) fun v => some (.ret v, m))))))))))) (fun v m => some (.pan v, m)))))) (k1 (mnil x0) fun u41 => (k1 (mfieldAddr E.P 57 u41 1) fun u42 => (k1 (xload E.P m 54 u42) fun u43 => (k1 (mindexAddr E.P 54 u43 x1) fun u44 => (k1 (xload E.P m 104 u44) fun u45 => (k1 (mslice E.P m 103 u9 (some (.int .i64 1)) none none) fun u46 => (k1 (mindexAddr E.P 104 u45 x2) fun u47 => (ks (xstore E.P base m 103 u47 u46) fun m => (fVal (.int .i64 0) fun v => some (.ret v, m))))))))))))))))))))))))))))))))) (fun v m => some (.pan v, m)))
def keep25 : Keep := { region := fun i => ([[0, 1, 2], [0, 1, 2, 7], [0, 1, 2, 7, 16], [6], [0, 1, 2, 8], [0, 1, 2, 8, 30], [6], [0, 1, 2, 8, 33], [0, 1, 2, 8, 33, 35, 36], [0, 1, 2, 8, 9], [0, 1, 2, 8, 9, 38], [6], [0, 1, 2, 8], [0, 1, 2, 8, 45, 46], [0, 1, 2, 8, 10], [0, 1, 2, 8], [], [6]] : List (List Nat))[i]?, exit := fun i => ([[0, 1, 2, 8]] : List (List Nat))[i]?, ret := some [6] }
noncomputable def lp25 (call : CallF) (fuel base : Nat) : Lp := lpsel []
noncomputable def c25 : Code := Try.f25.body.getD .skip
theorem r25_eq (call : CallF) (fuel base : Nat) (x0 : Value) (x1 : Value) (x2 : Value) (m : M) : kbody E call keep25 (lp25 call fuel base) base Try.f25 [x0, x1, x2] m = r25 call fuel base x0 x1 x2 m := by
 kernel_rfl
noncomputable def rf25 : RF := fun call fuel base args m => match args with
 | [x0, x1, x2] => r25 call fuel base x0 x1 x2 m
 | _ => none
theorem rf25_ok : RFok E 25 rf25 := by
 show RFok' E 25 rf25
 refine ⟨Try.f25, (by kernel_rfl), fun call fuel base args m r _ h => ?_⟩
 unfold rf25 at h
 split at h
 ·rw [← r25_eq] at h
  exact kbody_sound (c := c25) (by kernel_rfl) (Eq.mpr (show _ = (And True (And (And True D3) (And True (And D3 (And (And True (And True (And (And True (And D3 True)) D3))) B3))))) by kernel_rfl) ⟨trivial, ⟨⟨trivial, e3⟩, ⟨trivial, ⟨e3, ⟨⟨trivial, ⟨trivial, ⟨⟨trivial, ⟨e3, trivial⟩⟩, e3⟩⟩⟩, q3⟩⟩⟩⟩⟩) h
 ·simp at h
end Go.AM
namespace Go.AM
open Go Go.Proofs
noncomputable def r26_L0 (call : CallF) (fuel base : Nat) (kp : Value → M → Res2) (kx0 : Value → M → Res2) (n : Nat) : Value → Value → Value → M → Res2 :=
 Nat.rec (motive := fun _ => Value → Value → Value → M → Res2) (fun _ _ _ _ => none)
  (fun _ ih x3 x13 x14 m =>
   (k1 (mbin E .lss 3 x14 x13) fun u7 => (kb u7 (k1 (mindexAddr E.P 45 x3 x14) fun u8 => (k1 (mfieldAddr E.P 72 u8 4) fun u9 => (k1 (xload E.P m 22 u9) fun u10 => (kc (call base 74 [u10] m) (fun u11 m => (k1 (mindexAddr E.P 45 x3 x14) fun u12 => (k1 (mfieldAddr E.P 72 u12 4) fun u13 => (ks (xstore E.P base m 22 u13 u11) fun m => (k1 (mbin E .add 3 x14 (.int .i64 1)) fun u14 => (ih x3 x13 u14 m)))))) (fun v m => kp v m))))) (kx0 x3 m)))) n
noncomputable def r26 (call : CallF) (fuel base : Nat) (x0 : Value) (m : M) : Res2 :=
 (kc (call base 68 [x0] m) (fun u1 m => (kb u1 (fVal (.slice none 0 0) fun v => some (.ret v, m)) (k1 (mnil x0) fun u2 => (k1 (mfieldAddr E.P 57 u2 2) fun u3 => (k1 (xload E.P m 45 u3) fun u4 => (kc (call base 73 [u4] m) (fun u5 m => (k2 (vcall E.P base m .len [45] [u5]) fun u6 m => (r26_L0 call fuel base (fun v m => some (.pan v, m)) (fun w15 m => (fVal w15 fun v => some (.ret v, m))) fuel u5 u6 (.int .i64 0) m))) (fun v m => some (.pan v, m)))))))) (fun v m => some (.pan v, m)))
def keep26 : Keep := { region := fun i => ([[0], [0, 6], [2], [3], [3, 13, 14], [3, 13, 14, 15], [3, 4, 13, 14], [3, 13, 14], [3, 13, 14], [2]] : List (List Nat))[i]?, exit := fun i => ([[3], [3, 13, 14]] : List (List Nat))[i]?, ret := some [2] }
noncomputable def r26_L0_R (call : CallF) (fuel base n : Nat) (vs : List Value) (m : M) (K : KT) : Res2 := match vs with
 | [x3, x13, x14] => r26_L0 call fuel base (fun v m => K (.pan v) { n := 29, l := [] } m) (fun y3 m => K (.exit 0) { n := 29, l := [(3, y3)] } m) n x3 x13 x14 m
 | _ => none
noncomputable def lp26 (call : CallF) (fuel base : Nat) : Lp := lpsel [(0, fun T m K => kslots 29 [3, 13, 14] T fun vs => r26_L0_R call fuel base fuel vs m K)]
noncomputable def c26 : Code := Try.f26.body.getD .skip
noncomputable def p26_0 : Code := loopB (blockB (seqR (seqL (seqR (seqR (seqR c26))))))
theorem r26_L0_ok (call : CallF) (fuel base : Nat) : LQ lp26 call fuel base 0 p26_0 := by
 refine loop_ok (kp := keep26) (hb := Eq.mpr (show _ = (And True (And B2 D2)) by kernel_rfl) ⟨trivial, ⟨q2, e2⟩⟩) 29 [3, 13, 14] (r26_L0_R call fuel base) ?_ ?_ (fun _ _ _ => rfl)
 ·intro vs m K
  unfold r26_L0_R
  split <;> rfl
 ·intro n vs m K hl
  match vs, hl with
  | [x3, x13, x14], _ => show _ = _; kernel_rfl
theorem r26_eq (call : CallF) (fuel base : Nat) (x0 : Value) (m : M) : kbody E call keep26 (lp26 call fuel base) base Try.f26 [x0] m = r26 call fuel base x0 m := by
 kernel_rfl
noncomputable def rf26 : RF := fun call fuel base args m => match args with
 | [x0] => r26 call fuel base x0 m
 | _ => none
theorem rf26_ok : RFok E 26 rf26 := by
 show RFok' E 26 rf26
 refine ⟨Try.f26, (by kernel_rfl), fun call fuel base args m r _ h => ?_⟩
 unfold rf26 at h
 split at h
 ·rw [← r26_eq] at h
  exact kbody_sound (c := c26) (by kernel_rfl) (Eq.mpr (show _ = (And True (And D3 (And True (And (And True (LQ lp26 call fuel base 0 p26_0)) B2)))) by kernel_rfl) ⟨trivial, ⟨e3, ⟨trivial, ⟨⟨trivial, (r26_L0_ok call fuel base)⟩, q2⟩⟩⟩⟩) h
 ·simp at h
end Go.AM
namespace Go.AM
open Go Go.Proofs
noncomputable def r27 (call : CallF) (fuel base : Nat) (x0 : Value) (x1 : Value) (m : M) : Res2 :=
 (kc (call base 68 [x0] m) (fun u1 m => (kb u1 (some (.ret (.tuple #[(.int .i64 0), (.int .i64 1)]), m)) (kc (call base 69 [x0, x1] m) (fun u2 m => (k1 (mun .not u2) fun u3 => (kb u3 (some (.ret (.tuple #[(.int .i64 0), (.int .i64 2)]), m)) (k1 (mnil x0) fun u4 => (k1 (mfieldAddr E.P 57 u4 3) fun u5 => (k1 (xload E.P m 55 u5) fun u6 => (k2 (vcall E.P base m .len [55] [u6]) fun u7 m => (k1 (mbin E .geq 3 u7 (.int .i64 8)) fun u8 => (kb u8 (some (.ret (.tuple #[(.int .i64 0), (.int .i64 8)]), m)) (k1 (mnil x0) fun u9 => (k1 (mfieldAddr E.P 57 u9 3) fun u10 => (k1 (xload E.P m 55 u10) fun u11 => (k1 (mnil x0) fun u12 => (k1 (mfieldAddr E.P 57 u12 0) fun u13 => (k1 (xload E.P m 53 u13) fun u14 => (k2 (vcall E.P base m .len [53] [u14]) fun u15 m => (k2 (xmakeSlice E.P m 125 u15 u15) fun u16 m => (k2 (xbuildSlice E.P m 55 1 [(0, u16)]) fun u17 m => (k2 (vcall E.P base m .append [55, 55] [u11, u17]) fun u18 m => (k1 (mnil x0) fun u19 => (k1 (mfieldAddr E.P 57 u19 3) fun u20 => (ks (xstore E.P base m 55 u20 u18) fun m => (k1 (mnil x0) fun u21 => (k1 (mfieldAddr E.P 57 u21 3) fun u22 => (k1 (xload E.P m 55 u22) fun u23 => (k2 (vcall E.P base m .len [55] [u23]) fun u24 m => (kc (call base 75 [x0, u24, x1] m) (fun u25 m => (k1 (mnil x0) fun u26 => (k1 (mfieldAddr E.P 57 u26 3) fun u27 => (k1 (xload E.P m 55 u27) fun u28 => (k2 (vcall E.P base m .len [55] [u28]) fun u29 m => (some (.ret (.tuple #[u29, (.int .i64 0)]), m))))))) (fun v m => some (.pan v, m))))))))))))))))))))))))))))) (fun v m => some (.pan v, m))))) (fun v m => some (.pan v, m)))
def keep27 : Keep := { region := fun i => ([[0, 1], [0, 1, 7], [4, 5], [0, 1, 11], [4, 5], [0, 1, 17], [4, 5], [0, 1], [0], [4, 5]] : List (List Nat))[i]?, exit := fun i => ([] : List (List Nat))[i]?, ret := some [4, 5] }
noncomputable def lp27 (call : CallF) (fuel base : Nat) : Lp := lpsel []
noncomputable def c27 : Code := Try.f27.body.getD .skip
theorem r27_eq (call : CallF) (fuel base : Nat) (x0 : Value) (x1 : Value) (m : M) : kbody E call keep27 (lp27 call fuel base) base Try.f27 [x0, x1] m = r27 call fuel base x0 x1 m := by
 kernel_rfl
noncomputable def rf27 : RF := fun call fuel base args m => match args with
 | [x0, x1] => r27 call fuel base x0 x1 m
 | _ => none
theorem rf27_ok : RFok E 27 rf27 := by
 show RFok' E 27 rf27
 refine ⟨Try.f27, (by kernel_rfl), fun call fuel base args m r _ h => ?_⟩
 unfold rf27 at h
 split at h
 ·rw [← r27_eq] at h
  exact kbody_sound (c := c27) (by kernel_rfl) (Eq.mpr (show _ = (And True (And D3 (And D3 (And D3 B4)))) by kernel_rfl) ⟨trivial, ⟨e3, ⟨e3, ⟨e3, q4⟩⟩⟩⟩) h
 ·simp at h
end Go.AM
namespace Go.AM
open Go Go.Proofs
noncomputable def r28 (call : CallF) (fuel base : Nat) (x0 : Value) (m : M) : Res2 :=
 (kc (call base 68 [x0] m) (fun u1 m => (kb u1 (fVal (.int .i64 0) fun v => some (.ret v, m)) (kc (call base 76 [x0] m) (fun u2 m => (fVal u2 fun v => some (.ret v, m))) (fun v m => some (.pan v, m))))) (fun v m => some (.pan v, m)))
def keep28 : Keep := { region := fun i => ([[0], [0, 4], [2], [2]] : List (List Nat))[i]?, exit := fun i => ([] : List (List Nat))[i]?, ret := some [2] }
noncomputable def lp28 (call : CallF) (fuel base : Nat) : Lp := lpsel []
noncomputable def c28 : Code := Try.f28.body.getD .skip
theorem r28_eq (call : CallF) (fuel base : Nat) (x0 : Value) (m : M) : kbody E call keep28 (lp28 call fuel base) base Try.f28 [x0] m = r28 call fuel base x0 m := by
 kernel_rfl
noncomputable def rf28 : RF := fun call fuel base args m => match args with
 | [x0] => r28 call fuel base x0 m
 | _ => none
theorem rf28_ok : RFok E 28 rf28 := by
 show RFok' E 28 rf28
 refine ⟨Try.f28, (by kernel_rfl), fun call fuel base args m r _ h => ?_⟩
 unfold rf28 at h
 split at h
 ·rw [← r28_eq] at h
  exact kbody_sound (c := c28) (by kernel_rfl) (Eq.mpr (show _ = (And True D5) by kernel_rfl) ⟨trivial, e5⟩) h
 ·simp at h
end Go.AM
namespace Go.AM
open Go Go.Proofs
noncomputable def r29 (call : CallF) (fuel base : Nat) (x0 : Value) (m : M) : Res2 :=
 (kc (call base 68 [x0] m) (fun u1 m => (kb u1 (fVal (.pointer none) fun v => some (.ret v, m)) (kc (call base 77 [x0] m) (fun u2 m => (fVal u2 fun v => some (.ret v, m))) (fun v m => some (.pan v, m))))) (fun v m => some (.pan v, m)))
def keep29 : Keep := { region := fun i => ([[0], [0, 4], [2], [2]] : List (List Nat))[i]?, exit := fun i => ([] : List (List Nat))[i]?, ret := some [2] }
noncomputable def lp29 (call : CallF) (fuel base : Nat) : Lp := lpsel []
noncomputable def c29 : Code := Try.f29.body.getD .skip
theorem r29_eq (call : CallF) (fuel base : Nat) (x0 : Value) (m : M) : kbody E call keep29 (lp29 call fuel base) base Try.f29 [x0] m = r29 call fuel base x0 m := by
 kernel_rfl
noncomputable def rf29 : RF := fun call fuel base args m => match args with
 | [x0] => r29 call fuel base x0 m
 | _ => none
theorem rf29_ok : RFok E 29 rf29 := by
 show RFok' E 29 rf29
 refine ⟨Try.f29, (by kernel_rfl), fun call fuel base args m r _ h => ?_⟩
 unfold rf29 at h
 split at h
 ·rw [← r29_eq] at h
  exact kbody_sound (c := c29) (by kernel_rfl) (Eq.mpr (show _ = (And True D5) by kernel_rfl) ⟨trivial, e5⟩) h
 ·simp at h
end Go.AM
namespace Go.AM
open Go Go.Proofs
noncomputable def r30 (call : CallF) (fuel base : Nat) (x0 : Value) (x1 : Value) (m : M) : Res2 :=
 (kc (call base 78 [x0, x1] m) (fun u1 m => (k1 (mextract 0 u1) fun u2 => (k1 (mextract 1 u1) fun u3 => (k1 (mbin E .neq 26 u3 (.int .i64 0)) fun u4 => (kb u4 (some (.ret (.tuple #[(.bool false), u3]), m)) (kc (call base 79 [u2] m) (fun u5 m => (some (.ret (.tuple #[u5, (.int .i64 0)]), m))) (fun v m => some (.pan v, m)))))))) (fun v m => some (.pan v, m)))
def keep30 : Keep := { region := fun i => ([[0, 1], [6, 7], [6, 7, 15], [4, 5], [4, 5]] : List (List Nat))[i]?, exit := fun i => ([] : List (List Nat))[i]?, ret := some [4, 5] }
noncomputable def lp30 (call : CallF) (fuel base : Nat) : Lp := lpsel []
noncomputable def c30 : Code := Try.f30.body.getD .skip
theorem r30_eq (call : CallF) (fuel base : Nat) (x0 : Value) (x1 : Value) (m : M) : kbody E call keep30 (lp30 call fuel base) base Try.f30 [x0, x1] m = r30 call fuel base x0 x1 m := by
 kernel_rfl
noncomputable def rf30 : RF := fun call fuel base args m => match args with
 | [x0, x1] => r30 call fuel base x0 x1 m
 | _ => none
theorem rf30_ok : RFok E 30 rf30 := by
 show RFok' E 30 rf30
 refine ⟨Try.f30, (by kernel_rfl), fun call fuel base args m r _ h => ?_⟩
 unfold rf30 at h
 split at h
 ·rw [← r30_eq] at h
  exact kbody_sound (c := c30) (by kernel_rfl) (Eq.mpr (show _ = (And True (And True D5)) by kernel_rfl) ⟨trivial, ⟨trivial, e5⟩⟩) h
 ·simp at h
end Go.AM
namespace Go.AM
open Go Go.Proofs
noncomputable def r31 (call : CallF) (fuel base : Nat) (x0 : Value) (x1 : Value) (m : M) : Res2 :=
 (k2 (xalloc E.P m 62) fun u1 m => (kc (call base 80 [x0, x1] m) (fun u2 m => (k1 (mextract 0 u2) fun u3 => (k1 (mextract 1 u2) fun u4 => (k1 (mbin E .neq 26 u4 (.int .i64 0)) fun u5 => (kb u5 (k1 (mbuild E.P 62 []) fun u6 => (ks (xstore E.P base m 62 u1 u6) fun m => (k0 (mload E.P m 62 u1) fun r_7 => (some (.ret (.tuple #[r_7, u4]), m))))) (kc (call base 81 [u3] m) (fun u8 m => (ks (xstore E.P base m 62 u1 u8) fun m => (k0 (mload E.P m 62 u1) fun r_9 => (some (.ret (.tuple #[r_9, (.int .i64 0)]), m))))) (fun v m => some (.pan v, m)))))))) (fun v m => some (.pan v, m))))
def keep31 : Keep := { region := fun i => ([[0, 1, 4], [4, 6, 7], [4, 6, 7, 15], [4, 5], [4, 5]] : List (List Nat))[i]?, exit := fun i => ([] : List (List Nat))[i]?, ret := some [4, 5] }
noncomputable def lp31 (call : CallF) (fuel base : Nat) : Lp := lpsel []
noncomputable def c31 : Code := Try.f31.body.getD .skip
theorem r31_eq (call : CallF) (fuel base : Nat) (x0 : Value) (x1 : Value) (m : M) : kbody E call keep31 (lp31 call fuel base) base Try.f31 [x0, x1] m = r31 call fuel base x0 x1 m := by
 kernel_rfl
noncomputable def rf31 : RF := fun call fuel base args m => match args with
 | [x0, x1] => r31 call fuel base x0 x1 m
 | _ => none
theorem rf31_ok : RFok E 31 rf31 := by
 show RFok' E 31 rf31
 refine ⟨Try.f31, (by kernel_rfl), fun call fuel base args m r _ h => ?_⟩
 unfold rf31 at h
 split at h
 ·rw [← r31_eq] at h
  exact kbody_sound (c := c31) (by kernel_rfl) (Eq.mpr (show _ = (And True (And True D5)) by kernel_rfl) ⟨trivial, ⟨trivial, e5⟩⟩) h
 ·simp at h
end Go.AM
namespace Go.AM
open Go Go.Proofs
noncomputable def r32 (call : CallF) (fuel base : Nat) (x0 : Value) (x1 : Value) (m : M) : Res2 :=
 (kc (call base 80 [x0, x1] m) (fun u1 m => (k1 (mextract 0 u1) fun u2 => (k1 (mextract 1 u1) fun u3 => (k1 (mbin E .neq 26 u3 (.int .i64 0)) fun u4 => (kb u4 (some (.ret (.tuple #[(.slice none 0 0), u3]), m)) (kc (call base 82 [u2] m) (fun u5 m => (some (.ret (.tuple #[u5, (.int .i64 0)]), m))) (fun v m => some (.pan v, m)))))))) (fun v m => some (.pan v, m)))
def keep32 : Keep := { region := fun i => ([[0, 1], [6, 7], [6, 7, 15], [4, 5], [4, 5]] : List (List Nat))[i]?, exit := fun i => ([] : List (List Nat))[i]?, ret := some [4, 5] }
noncomputable def lp32 (call : CallF) (fuel base : Nat) : Lp := lpsel []
noncomputable def c32 : Code := Try.f32.body.getD .skip
theorem r32_eq (call : CallF) (fuel base : Nat) (x0 : Value) (x1 : Value) (m : M) : kbody E call keep32 (lp32 call fuel base) base Try.f32 [x0, x1] m = r32 call fuel base x0 x1 m := by
 kernel_rfl
noncomputable def rf32 : RF := fun call fuel base args m => match args with
 | [x0, x1] => r32 call fuel base x0 x1 m
 | _ => none
theorem rf32_ok : RFok E 32 rf32 := by
 show RFok' E 32 rf32
 refine ⟨Try.f32, (by kernel_rfl), fun call fuel base args m r _ h => ?_⟩
 unfold rf32 at h
 split at h
 ·rw [← r32_eq] at h
  exact kbody_sound (c := c32) (by kernel_rfl) (Eq.mpr (show _ = (And True (And True D5)) by kernel_rfl) ⟨trivial, ⟨trivial, e5⟩⟩) h
 ·simp at h
end Go.AM
namespace Go.AM
open Go Go.Proofs
noncomputable def r33_L0 (call : CallF) (fuel base : Nat) (kx0 : Value → M → Res2) (n : Nat) : Value → Value → Value → Value → M → Res2 :=
 Nat.rec (motive := fun _ => Value → Value → Value → Value → M → Res2) (fun _ _ _ _ _ => none)
  (fun _ ih x3 x17 x18 x19 m =>
   (k1 (mbin E .lss 3 x19 x18) fun u11 => (kb u11 (k1 (mindexAddr E.P 53 x17 x19) fun u12 => (k1 (xload E.P m 114 u12) fun u13 => (k2 (xalloc E.P m 114) fun u14 m => (ks (xstore E.P base m 114 u14 u13) fun m => (k1 (mfieldAddr E.P 114 u14 0) fun u15 => (k1 (xload E.P m 3 u15) fun u16 => (k1 (mindexAddr E.P 22 x3 x19) fun u17 => (ks (xstore E.P base m 3 u17 u16) fun m => (k1 (mbin E .add 3 x19 (.int .i64 1)) fun u18 => (ih x3 x17 x18 u18 m)))))))))) (kx0 x3 m)))) n
noncomputable def r33 (call : CallF) (fuel base : Nat) (x0 : Value) (m : M) : Res2 :=
 (kc (call base 68 [x0] m) (fun u1 m => (kb u1 (fVal (.slice none 0 0) fun v => some (.ret v, m)) (k1 (mnil x0) fun u2 => (k1 (mfieldAddr E.P 57 u2 0) fun u3 => (k1 (xload E.P m 53 u3) fun u4 => (k2 (vcall E.P base m .len [53] [u4]) fun u5 m => (k2 (xmakeSlice E.P m 22 u5 u5) fun u6 m => (k1 (mnil x0) fun u7 => (k1 (mfieldAddr E.P 57 u7 0) fun u8 => (k1 (xload E.P m 53 u8) fun u9 => (k2 (vcall E.P base m .len [53] [u9]) fun u10 m => (r33_L0 call fuel base (fun w19 m => (fVal w19 fun v => some (.ret v, m))) fuel u6 u9 u10 (.int .i64 0) m)))))))))))) (fun v m => some (.pan v, m)))
def keep33 : Keep := { region := fun i => ([[0], [0, 7], [2], [0, 3], [3, 17, 18, 19], [3, 17, 18, 19, 20], [3, 4, 5, 17, 18, 19], [3, 17, 18, 19], [3, 17, 18, 19], [2]] : List (List Nat))[i]?, exit := fun i => ([[3], [3, 17, 18, 19]] : List (List Nat))[i]?, ret := some [2] }
noncomputable def r33_L0_R (call : CallF) (fuel base n : Nat) (vs : List Value) (m : M) (K : KT) : Res2 := match vs with
 | [x3, x17, x18, x19] => r33_L0 call fuel base (fun y3 m => K (.exit 0) { n := 31, l := [(3, y3)] } m) n x3 x17 x18 x19 m
 | _ => none
noncomputable def lp33 (call : CallF) (fuel base : Nat) : Lp := lpsel [(0, fun T m K => kslots 31 [3, 17, 18, 19] T fun vs => r33_L0_R call fuel base fuel vs m K)]
noncomputable def c33 : Code := Try.f33.body.getD .skip
noncomputable def p33_0 : Code := loopB (blockB (seqR (seqL (seqR (seqR (seqR c33))))))
theorem r33_L0_ok (call : CallF) (fuel base : Nat) : LQ lp33 call fuel base 0 p33_0 := by
 refine loop_ok (kp := keep33) (hb := Eq.mpr (show _ = (And True (And B2 D2)) by kernel_rfl) ⟨trivial, ⟨q2, e2⟩⟩) 31 [3, 17, 18, 19] (r33_L0_R call fuel base) ?_ ?_ (fun _ _ _ => rfl)
 ·intro vs m K
  unfold r33_L0_R
  split <;> rfl
 ·intro n vs m K hl
  match vs, hl with
  | [x3, x17, x18, x19], _ => show _ = _; kernel_rfl
theorem r33_eq (call : CallF) (fuel base : Nat) (x0 : Value) (m : M) : kbody E call keep33 (lp33 call fuel base) base Try.f33 [x0] m = r33 call fuel base x0 m := by
 kernel_rfl
noncomputable def rf33 : RF := fun call fuel base args m => match args with
 | [x0] => r33 call fuel base x0 m
 | _ => none
theorem rf33_ok : RFok E 33 rf33 := by
 show RFok' E 33 rf33
 refine ⟨Try.f33, (by kernel_rfl), fun call fuel base args m r _ h => ?_⟩
 unfold rf33 at h
 split at h
 ·rw [← r33_eq] at h
  exact kbody_sound (c := c33) (by kernel_rfl) (Eq.mpr (show _ = (And True (And D3 (And True (And (And True (LQ lp33 call fuel base 0 p33_0)) B2)))) by kernel_rfl) ⟨trivial, ⟨e3, ⟨trivial, ⟨⟨trivial, (r33_L0_ok call fuel base)⟩, q2⟩⟩⟩⟩) h
 ·simp at h
end Go.AM
namespace Go.AM
open Go Go.Proofs
noncomputable def r49 (call : CallF) (fuel base : Nat) (x0 : Value) (m : M) : Res2 :=
 (k1 (mbin E .geq 3 x0 (.int .i64 2)) fun u1 => (kb u1 (k1 (mbin E .leq 3 x0 (.int .i64 5)) fun u2 => (fVal u2 fun v => some (.ret v, m))) (fVal (.bool false) fun v => some (.ret v, m))))
def keep49 : Keep := { region := fun i => ([[0], [2]] : List (List Nat))[i]?, exit := fun i => ([] : List (List Nat))[i]?, ret := some [2] }
noncomputable def lp49 (call : CallF) (fuel base : Nat) : Lp := lpsel []
noncomputable def c49 : Code := Try.f49.body.getD .skip
theorem r49_eq (call : CallF) (fuel base : Nat) (x0 : Value) (m : M) : kbody E call keep49 (lp49 call fuel base) base Try.f49 [x0] m = r49 call fuel base x0 m := by
 kernel_rfl
noncomputable def rf49 : RF := fun call fuel base args m => match args with
 | [x0] => r49 call fuel base x0 m
 | _ => none
theorem rf49_ok : RFok E 49 rf49 := by
 show RFok' E 49 rf49
 refine ⟨Try.f49, (by kernel_rfl), fun call fuel base args m r _ h => ?_⟩
 unfold rf49 at h
 split at h
 ·rw [← r49_eq] at h
  exact kbody_sound (c := c49) (by kernel_rfl) (Eq.mpr (show _ = B3 by kernel_rfl) q3) h
 ·simp at h
end Go.AM
namespace Go.AM
open Go Go.Proofs
noncomputable def r50 (call : CallF) (fuel base : Nat) (x0 : Value) (x1 : Value) (m : M) : Res2 :=
 (kc (call base 92 [x0, x1] m) (fun u1 m => (k1 (mbin E .geq 3 u1 (.int .i64 0)) fun u2 => (fVal u2 fun v => some (.ret v, m)))) (fun v m => some (.pan v, m)))
def keep50 : Keep := { region := fun i => ([[0, 1], [4]] : List (List Nat))[i]?, exit := fun i => ([] : List (List Nat))[i]?, ret := some [4] }
noncomputable def lp50 (call : CallF) (fuel base : Nat) : Lp := lpsel []
noncomputable def c50 : Code := Try.f50.body.getD .skip
theorem r50_eq (call : CallF) (fuel base : Nat) (x0 : Value) (x1 : Value) (m : M) : kbody E call keep50 (lp50 call fuel base) base Try.f50 [x0, x1] m = r50 call fuel base x0 x1 m := by
 kernel_rfl
noncomputable def rf50 : RF := fun call fuel base args m => match args with
 | [x0, x1] => r50 call fuel base x0 x1 m
 | _ => none
theorem rf50_ok : RFok E 50 rf50 := by
 show RFok' E 50 rf50
 refine ⟨Try.f50, (by kernel_rfl), fun call fuel base args m r _ h => ?_⟩
 unfold rf50 at h
 split at h
 ·rw [← r50_eq] at h
  exact kbody_sound (c := c50) (by kernel_rfl) (Eq.mpr (show _ = B3 by kernel_rfl) q3) h
 ·simp at h
end Go.AM
namespace Go.AM
open Go Go.Proofs
noncomputable def r51 (call : CallF) (fuel base : Nat) (x0 : Value) (m : M) : Res2 :=
 (k1 (mbin E .lss 3 x0 (.int .i64 0)) fun u1 => (kb u1 (fVal (.bool true) fun v => some (.ret v, m)) (k1 (mbin E .gtr 3 x0 (.int .i64 1000000)) fun u2 => (fVal u2 fun v => some (.ret v, m)))))
def keep51 : Keep := { region := fun i => ([[0], [2]] : List (List Nat))[i]?, exit := fun i => ([] : List (List Nat))[i]?, ret := some [2] }
noncomputable def lp51 (call : CallF) (fuel base : Nat) : Lp := lpsel []
noncomputable def c51 : Code := Try.f51.body.getD .skip
theorem r51_eq (call : CallF) (fuel base : Nat) (x0 : Value) (m : M) : kbody E call keep51 (lp51 call fuel base) base Try.f51 [x0] m = r51 call fuel base x0 m := by
 kernel_rfl
noncomputable def rf51 : RF := fun call fuel base args m => match args with
 | [x0] => r51 call fuel base x0 m
 | _ => none
theorem rf51_ok : RFok E 51 rf51 := by
 show RFok' E 51 rf51
 refine ⟨Try.f51, (by kernel_rfl), fun call fuel base args m r _ h => ?_⟩
 unfold rf51 at h
 split at h
 ·rw [← r51_eq] at h
  exact kbody_sound (c := c51) (by kernel_rfl) (Eq.mpr (show _ = B3 by kernel_rfl) q3) h
 ·simp at h
end Go.AM
namespace Go.AM
open Go Go.Proofs
noncomputable def r52_L0 (call : CallF) (fuel base : Nat) (kx0 : Value → M → Res2) (n : Nat) : Value → Value → Value → Value → Value → M → Res2 :=
 Nat.rec (motive := fun _ => Value → Value → Value → Value → Value → M → Res2) (fun _ _ _ _ _ _ => none)
  (fun _ ih x0 x3 x8 x9 x10 m =>
   (k1 (mbin E .lss 3 x10 x9) fun u4 => (kb u4 (k1 (mindexAddr E.P 22 x8 x10) fun u5 => (k1 (xload E.P m 3 u5) fun u6 => (k1 (mnil x3) fun u7 => (k1 (mfieldAddr E.P 57 u7 0) fun u8 => (k1 (xload E.P m 53 u8) fun u9 => (k1 (mbuild E.P 114 [(0, u6)]) fun u10 => (k2 (xbuildSlice E.P m 53 1 [(0, u10)]) fun u11 m => (k2 (vcall E.P base m .append [53, 53] [u9, u11]) fun u12 m => (k1 (mnil x3) fun u13 => (k1 (mfieldAddr E.P 57 u13 0) fun u14 => (ks (xstore E.P base m 53 u14 u12) fun m => (k1 (mnil x3) fun u15 => (k1 (mfieldAddr E.P 57 u15 1) fun u16 => (k1 (xload E.P m 54 u16) fun u17 => (k2 (vcall E.P base m .len [22] [x0]) fun u18 m => (k2 (xmakeSlice E.P m 104 u18 u18) fun u19 m => (k2 (xbuildSlice E.P m 54 1 [(0, u19)]) fun u20 m => (k2 (vcall E.P base m .append [54, 54] [u17, u20]) fun u21 m => (k1 (mnil x3) fun u22 => (k1 (mfieldAddr E.P 57 u22 1) fun u23 => (ks (xstore E.P base m 54 u23 u21) fun m => (k1 (mbin E .add 3 x10 (.int .i64 1)) fun u24 => (ih x0 x3 x8 x9 u24 m))))))))))))))))))))))) (kx0 x3 m)))) n
noncomputable def r52 (call : CallF) (fuel base : Nat) (x0 : Value) (m : M) : Res2 :=
 (k1 (mbuild E.P 57 []) fun u1 => (k2 (xbox m u1) fun u2 m => (k2 (vcall E.P base m .len [22] [x0]) fun u3 m => (r52_L0 call fuel base (fun w25 m => (fVal w25 fun v => some (.ret v, m))) fuel x0 u2 x0 u3 (.int .i64 0) m))))
def keep52 : Keep := { region := fun i => ([[0], [0, 3], [0, 3, 8, 9, 10], [0, 3, 8, 9, 10, 11], [0, 3, 5, 8, 9, 10], [0, 3, 8, 9, 10], [0, 3, 8, 9, 10], [0, 3, 8, 9, 10], [2]] : List (List Nat))[i]?, exit := fun i => ([[3], [0, 3, 8, 9, 10]] : List (List Nat))[i]?, ret := some [2] }
noncomputable def r52_L0_R (call : CallF) (fuel base n : Nat) (vs : List Value) (m : M) (K : KT) : Res2 := match vs with
 | [x0, x3, x8, x9, x10] => r52_L0 call fuel base (fun y3 m => K (.exit 0) { n := 39, l := [(3, y3)] } m) n x0 x3 x8 x9 x10 m
 | _ => none
noncomputable def lp52 (call : CallF) (fuel base : Nat) : Lp := lpsel [(0, fun T m K => kslots 39 [0, 3, 8, 9, 10] T fun vs => r52_L0_R call fuel base fuel vs m K)]
noncomputable def c52 : Code := Try.f52.body.getD .skip
noncomputable def p52_0 : Code := loopB (blockB (seqR (seqL (seqR (seqR c52)))))
theorem r52_L0_ok (call : CallF) (fuel base : Nat) : LQ lp52 call fuel base 0 p52_0 := by
 refine loop_ok (kp := keep52) (hb := Eq.mpr (show _ = (And True (And B2 (And B3 True))) by kernel_rfl) ⟨trivial, ⟨q2, ⟨q3, trivial⟩⟩⟩) 39 [0, 3, 8, 9, 10] (r52_L0_R call fuel base) ?_ ?_ (fun _ _ _ => rfl)
 ·intro vs m K
  unfold r52_L0_R
  split <;> rfl
 ·intro n vs m K hl
  match vs, hl with
  | [x0, x3, x8, x9, x10], _ => show _ = _; kernel_rfl
theorem r52_eq (call : CallF) (fuel base : Nat) (x0 : Value) (m : M) : kbody E call keep52 (lp52 call fuel base) base Try.f52 [x0] m = r52 call fuel base x0 m := by
 kernel_rfl
noncomputable def rf52 : RF := fun call fuel base args m => match args with
 | [x0] => r52 call fuel base x0 m
 | _ => none
theorem rf52_ok : RFok E 52 rf52 := by
 show RFok' E 52 rf52
 refine ⟨Try.f52, (by kernel_rfl), fun call fuel base args m r _ h => ?_⟩
 unfold rf52 at h
 split at h
 ·rw [← r52_eq] at h
  exact kbody_sound (c := c52) (by kernel_rfl) (Eq.mpr (show _ = (And True (And True (And (And True (LQ lp52 call fuel base 0 p52_0)) B2))) by kernel_rfl) ⟨trivial, ⟨trivial, ⟨⟨trivial, (r52_L0_ok call fuel base)⟩, q2⟩⟩⟩) h
 ·simp at h
end Go.AM
namespace Go.AM
open Go Go.Proofs
noncomputable def r53 (call : CallF) (fuel base : Nat) (x0 : Value) (x1 : Value) (x2 : Value) (m : M) : Res2 :=
 (kc (call base 93 [x0, x1] m) (fun u1 m => (k1 (mun .not u1) fun u2 => (kb u2 (some (.ret (.tuple #[x0, (.int .i64 2)]), m)) (k1 (mbin E .lss 3 x2 (.int .i64 1)) fun u3 => (kb u3 (some (.ret (.tuple #[x0, (.int .i64 2)]), m)) (k1 (mbin E .gtr 3 x2 (.int .i64 1000000)) fun u4 => (kb u4 (some (.ret (.tuple #[x0, (.int .i64 2)]), m)) (k1 (mnil x0) fun u5 => (k1 (mfieldAddr E.P 96 u5 3) fun u6 => (k1 (xload E.P m 45 u6) fun u7 => (k2 (vcall E.P base m .len [45] [u7]) fun u8 m => (k1 (mbin E .geq 3 u8 (.int .i64 400)) fun u9 => (kb u9 (some (.ret (.tuple #[x0, (.int .i64 8)]), m)) (kc (call base 94 [x0] m) (fun u10 m => (k1 (mnil u10) fun u11 => (k1 (mfieldAddr E.P 96 u11 0) fun u12 => (k1 (xload E.P m 22 u12) fun u13 => (k1 (mindexAddr E.P 22 u13 x1) fun u14 => (k1 (xload E.P m 3 u14) fun u15 => (k1 (mbin E .add 3 u15 x2) fun u16 => (k1 (mindexAddr E.P 22 u13 x1) fun u17 => (ks (xstore E.P base m 3 u17 u16) fun m => (kc (call base 95 [u10, x1, (.int .i64 1), x1, x2] m) (fun u18 m => (some (.ret (.tuple #[u10, (.int .i64 0)]), m))) (fun v m => some (.pan v, m)))))))))))) (fun v m => some (.pan v, m)))))))))))))))) (fun v m => some (.pan v, m)))
def keep53 : Keep := { region := fun i => ([[0, 1, 2], [0, 1, 2, 20], [6, 7], [0, 1, 2, 27], [6, 7], [1, 2, 8], [1, 2, 8], [8], [6, 7]] : List (List Nat))[i]?, exit := fun i => ([] : List (List Nat))[i]?, ret := some [6, 7] }
noncomputable def lp53 (call : CallF) (fuel base : Nat) : Lp := lpsel []
noncomputable def c53 : Code := Try.f53.body.getD .skip
theorem r53_eq (call : CallF) (fuel base : Nat) (x0 : Value) (x1 : Value) (x2 : Value) (m : M) : kbody E call keep53 (lp53 call fuel base) base Try.f53 [x0, x1, x2] m = r53 call fuel base x0 x1 x2 m := by
 kernel_rfl
noncomputable def rf53 : RF := fun call fuel base args m => match args with
 | [x0, x1, x2] => r53 call fuel base x0 x1 x2 m
 | _ => none
theorem rf53_ok : RFok E 53 rf53 := by
 show RFok' E 53 rf53
 refine ⟨Try.f53, (by kernel_rfl), fun call fuel base args m r _ h => ?_⟩
 unfold rf53 at h
 split at h
 ·rw [← r53_eq] at h
  exact kbody_sound (c := c53) (by kernel_rfl) (Eq.mpr (show _ = (And True (And D3 (And D3 B5))) by kernel_rfl) ⟨trivial, ⟨e3, ⟨e3, q5⟩⟩⟩) h
 ·simp at h
end Go.AM
namespace Go.AM
open Go Go.Proofs
noncomputable def r54 (call : CallF) (fuel base : Nat) (x0 : Value) (x1 : Value) (x2 : Value) (x3 : Value) (m : M) : Res2 :=
 (kc (call base 60 [x0, x1, x2] m) (fun u1 m => (k1 (mbin E .neq 26 u1 (.int .i64 0)) fun u2 => (kb u2 (some (.ret (.tuple #[x0, (.int .i64 2)]), m)) (k1 (mbin E .lss 3 x3 (.int .i64 1)) fun u3 => (kb u3 (some (.ret (.tuple #[x0, (.int .i64 2)]), m)) (k1 (mbin E .gtr 3 x3 (.int .i64 1000000)) fun u4 => (kb u4 (some (.ret (.tuple #[x0, (.int .i64 2)]), m)) (k1 (mnil x0) fun u5 => (k1 (mfieldAddr E.P 96 u5 0) fun u6 => (k1 (xload E.P m 22 u6) fun u7 => (k1 (mindexAddr E.P 22 u7 x1) fun u8 => (k1 (xload E.P m 3 u8) fun u9 => (k1 (mbin E .lss 3 u9 x3) fun u10 => (kb u10 (some (.ret (.tuple #[x0, (.int .i64 10)]), m)) (k1 (mnil x0) fun u11 => (k1 (mfieldAddr E.P 96 u11 3) fun u12 => (k1 (xload E.P m 45 u12) fun u13 => (k2 (vcall E.P base m .len [45] [u13]) fun u14 m => (k1 (mbin E .geq 3 u14 (.int .i64 400)) fun u15 => (kb u15 (some (.ret (.tuple #[x0, (.int .i64 8)]), m)) (kc (call base 94 [x0] m) (fun u16 m => (k1 (mnil u16) fun u17 => (k1 (mfieldAddr E.P 96 u17 0) fun u18 => (k1 (xload E.P m 22 u18) fun u19 => (k1 (mindexAddr E.P 22 u19 x1) fun u20 => (k1 (xload E.P m 3 u20) fun u21 => (k1 (mbin E .sub 3 u21 x3) fun u22 => (k1 (mindexAddr E.P 22 u19 x1) fun u23 => (ks (xstore E.P base m 3 u23 u22) fun m => (kc (call base 95 [u16, x1, (.int .i64 2), x2, x3] m) (fun u24 m => (k1 (mnil u16) fun u25 => (k1 (mfieldAddr E.P 96 u25 2) fun u26 => (kexv (mexact m u26) (k1 (xload E.P m 93 u26) fun u27 => (k1 (mindexAddr E.P 93 u27 x1) fun u28 => (kexv (mexact m u28) (k1 (xload E.P m 97 u28) fun u29 => (k1 (mnil u16) fun u30 => (k1 (mfieldAddr E.P 96 u30 2) fun u31 => (k1 (xload E.P m 93 u31) fun u32 => (k1 (mindexAddr E.P 93 u32 x1) fun u33 => (k1 (xload E.P m 97 u33) fun u34 => (k1 (mindexAddr E.P 97 u34 x2) fun u35 => (k1 (xload E.P m 107 u35) fun u36 => (k1 (mnil u16) fun u37 => (k1 (mfieldAddr E.P 96 u37 1) fun u38 => (k1 (xload E.P m 80 u38) fun u39 => (k1 (mindexAddr E.P 80 u39 x1) fun u40 => (k1 (xload E.P m 22 u40) fun u41 => (kc (kB m (call m.length 96 [u41] m)) (fun u42 m => (k1 (mbuild E.P 109 [(0, x3), (1, u42)]) fun u43 => (k2 (xbuildSlice E.P m 107 1 [(0, u43)]) fun u44 m => (kexv (mdifV [u36, u44] [u26, u28]) (k2 (vcall E.P base m .append [107, 107] [u36, u44]) fun u45 m => (k1 (mindexAddr E.P 97 u29 x2) fun u46 => (ks (xstore E.P base m 107 u46 u45) fun m => (some (.ret (.tuple #[u16, (.int .i64 0)]), m))))))))) (fun _ _ => none)))))))))))))))))))))) (fun v m => some (.pan v, m)))))))))))) (fun v m => some (.pan v, m))))))))))))))))))))))) (fun v m => some (.pan v, m)))
def keep54 : Keep := { region := fun i => ([[0, 1, 2, 3], [0, 1, 2, 3, 23], [8, 9], [0, 1, 2, 3, 33], [8, 9], [0, 1, 2, 3, 40], [8, 9], [1, 2, 3, 10], [1, 2, 3, 10], [1, 2, 3, 10], [10], [8, 9]] : List (List Nat))[i]?, exit := fun i => ([] : List (List Nat))[i]?, ret := some [8, 9] }
noncomputable def lp54 (call : CallF) (fuel base : Nat) : Lp := lpsel []
noncomputable def c54 : Code := Try.f54.body.getD .skip
theorem r54_eq (call : CallF) (fuel base : Nat) (x0 : Value) (x1 : Value) (x2 : Value) (x3 : Value) (m : M) : kbody E call keep54 (lp54 call fuel base) base Try.f54 [x0, x1, x2, x3] m = r54 call fuel base x0 x1 x2 x3 m := by
 kernel_rfl
noncomputable def rf54 : RF := fun call fuel base args m => match args with
 | [x0, x1, x2, x3] => r54 call fuel base x0 x1 x2 x3 m
 | _ => none
theorem rf54_ok : RFok E 54 rf54 := by
 show RFok' E 54 rf54
 refine ⟨Try.f54, (by kernel_rfl), fun call fuel base args m r _ h => ?_⟩
 unfold rf54 at h
 split at h
 ·rw [← r54_eq] at h
  exact kbody_sound (c := c54) (by kernel_rfl) (Eq.mpr (show _ = (And True (And D3 (And D3 (And D3 B6)))) by kernel_rfl) ⟨trivial, ⟨e3, ⟨e3, ⟨e3, q6⟩⟩⟩⟩) h
 ·simp at h
end Go.AM
namespace Go.AM
open Go Go.Proofs
noncomputable def r55_L0 (call : CallF) (fuel base : Nat) (kx0 : Value → Value → Value → M → Res2) (n : Nat) : Value → Value → Value → Value → Value → M → Res2 :=
 Nat.rec (motive := fun _ => Value → Value → Value → Value → Value → M → Res2) (fun _ _ _ _ _ _ => none)
  (fun _ ih x1 x7 x8 x9 x10 m =>
   (k1 (mbin E .lss 3 x10 x8) fun u18 => (kb u18 (k1 (mfieldAddr E.P 140 x9 3) fun u19 => (k1 (xload E.P m 84 u19) fun u20 => (k2 (xmakeSlice E.P m 86 x8 x8) fun u21 m => (k2 (xbuildSlice E.P m 84 1 [(0, u21)]) fun u22 m => (k2 (vcall E.P base m .append [84, 84] [u20, u22]) fun u23 m => (k1 (mfieldAddr E.P 140 x9 3) fun u24 => (ks (xstore E.P base m 84 u24 u23) fun m => (k1 (mfieldAddr E.P 140 x9 4) fun u25 => (k1 (xload E.P m 60 u25) fun u26 => (k2 (xmakeSlice E.P m 80 x8 x8) fun u27 m => (k2 (xbuildSlice E.P m 60 1 [(0, u27)]) fun u28 m => (k2 (vcall E.P base m .append [60, 60] [u26, u28]) fun u29 m => (k1 (mfieldAddr E.P 140 x9 4) fun u30 => (ks (xstore E.P base m 60 u30 u29) fun m => (k1 (mbin E .add 3 x10 (.int .i64 1)) fun u31 => (ih x1 x7 x8 x9 u31 m)))))))))))))))) (kx0 x1 x7 x9 m)))) n
noncomputable def r55 (call : CallF) (fuel base : Nat) (x0 : Value) (x1 : Value) (m : M) : Res2 :=
 (kc (call base 93 [x0, x1] m) (fun u1 m => (k1 (mun .not u1) fun u2 => (kb u2 (some (.ret (.tuple #[x0, (.int .i64 0), (.int .i64 2)]), m)) (k1 (mnil x0) fun u3 => (k1 (mfieldAddr E.P 96 u3 4) fun u4 => (k1 (xload E.P m 94 u4) fun u5 => (k2 (vcall E.P base m .len [94] [u5]) fun u6 m => (k1 (mbin E .geq 3 u6 (.int .i64 8)) fun u7 => (kb u7 (some (.ret (.tuple #[x0, (.int .i64 0), (.int .i64 8)]), m)) (kc (call base 94 [x0] m) (fun u8 m => (k1 (mnil u8) fun u9 => (k1 (mfieldAddr E.P 96 u9 0) fun u10 => (k1 (xload E.P m 22 u10) fun u11 => (k2 (vcall E.P base m .len [22] [u11]) fun u12 m => (k2 (xmakeSlice E.P m 86 u12 u12) fun u13 m => (k2 (xmakeSlice E.P m 22 u12 u12) fun u14 m => (k2 (xmakeSlice E.P m 22 u12 u12) fun u15 m => (k1 (mbuild E.P 140 [(0, u13), (1, u14), (2, u15)]) fun u16 => (k2 (xalloc E.P m 140) fun u17 m => (ks (xstore E.P base m 140 u17 u16) fun m => (r55_L0 call fuel base (fun w32 w33 w34 m => (k1 (mnil w33) fun u35 => (k1 (mfieldAddr E.P 96 u35 4) fun u36 => (k1 (xload E.P m 94 u36) fun u37 => (k1 (xload E.P m 140 w34) fun u38 => (k2 (xbuildSlice E.P m 94 1 [(0, u38)]) fun u39 m => (k2 (vcall E.P base m .append [94, 94] [u37, u39]) fun u40 m => (k1 (mnil w33) fun u41 => (k1 (mfieldAddr E.P 96 u41 4) fun u42 => (ks (xstore E.P base m 94 u42 u40) fun m => (k1 (mnil w33) fun u43 => (k1 (mfieldAddr E.P 96 u43 4) fun u44 => (k1 (xload E.P m 94 u44) fun u45 => (k2 (vcall E.P base m .len [94] [u45]) fun u46 m => (k1 (mbin E .sub 3 u46 (.int .i64 1)) fun u47 => (kc (call base 97 [w33, u47, w32] m) (fun u48 m => (k1 (mnil w33) fun u49 => (k1 (mfieldAddr E.P 96 u49 4) fun u50 => (k1 (xload E.P m 94 u50) fun u51 => (k2 (vcall E.P base m .len [94] [u51]) fun u52 m => (some (.ret (.tuple #[w33, u52, (.int .i64 0)]), m))))))) (fun v m => some (.pan v, m)))))))))))))))))) fuel x1 u8 u12 u17 (.int .i64 0) m)))))))))))) (fun v m => some (.pan v, m)))))))))))) (fun v m => some (.pan v, m)))
def keep55 : Keep := { region := fun i => ([[0, 1], [0, 1, 14], [4, 5, 6], [0, 1, 21], [4, 5, 6], [1, 7], [1, 7, 8], [1, 7, 8, 9], [1, 7, 8, 9, 10], [1, 7, 8, 9, 10, 39], [1, 7, 8, 9, 10], [1, 7, 8, 9, 10], [1, 7, 8, 9, 10], [1, 7], [7], [4, 5, 6]] : List (List Nat))[i]?, exit := fun i => ([[1, 7, 9], [1, 7, 8, 9, 10]] : List (List Nat))[i]?, ret := some [4, 5, 6] }
noncomputable def r55_L0_R (call : CallF) (fuel base n : Nat) (vs : List Value) (m : M) (K : KT) : Res2 := match vs with
 | [x1, x7, x8, x9, x10] => r55_L0 call fuel base (fun y1 y7 y9 m => K (.exit 0) { n := 81, l := [(1, y1), (7, y7), (9, y9)] } m) n x1 x7 x8 x9 x10 m
 | _ => none
noncomputable def lp55 (call : CallF) (fuel base : Nat) : Lp := lpsel [(0, fun T m K => kslots 81 [1, 7, 8, 9, 10] T fun vs => r55_L0_R call fuel base fuel vs m K)]
noncomputable def c55 : Code := Try.f55.body.getD .skip
noncomputable def p55_0 : Code := loopB (blockB (seqR (seqL (seqR (seqR (seqR (seqR (seqR (seqR c55)))))))))
theorem r55_L0_ok (call : CallF) (fuel base : Nat) : LQ lp55 call fuel base 0 p55_0 := by
 refine loop_ok (kp := keep55) (hb := Eq.mpr (show _ = (And B3 D2) by kernel_rfl) ⟨q3, e2⟩) 81 [1, 7, 8, 9, 10] (r55_L0_R call fuel base) ?_ ?_ (fun _ _ _ => rfl)
 ·intro vs m K
  unfold r55_L0_R
  split <;> rfl
 ·intro n vs m K hl
  match vs, hl with
  | [x1, x7, x8, x9, x10], _ => show _ = _; kernel_rfl
theorem r55_eq (call : CallF) (fuel base : Nat) (x0 : Value) (x1 : Value) (m : M) : kbody E call keep55 (lp55 call fuel base) base Try.f55 [x0, x1] m = r55 call fuel base x0 x1 m := by
 kernel_rfl
noncomputable def rf55 : RF := fun call fuel base args m => match args with
 | [x0, x1] => r55 call fuel base x0 x1 m
 | _ => none
theorem rf55_ok : RFok E 55 rf55 := by
 show RFok' E 55 rf55
 refine ⟨Try.f55, (by kernel_rfl), fun call fuel base args m r _ h => ?_⟩
 unfold rf55 at h
 split at h
 ·rw [← r55_eq] at h
  exact kbody_sound (c := c55) (by kernel_rfl) (Eq.mpr (show _ = (And True (And D3 (And D3 (And True (And True (And True (And (And True (LQ lp55 call fuel base 0 p55_0)) B4))))))) by kernel_rfl) ⟨trivial, ⟨e3, ⟨e3, ⟨trivial, ⟨trivial, ⟨trivial, ⟨⟨trivial, (r55_L0_ok call fuel base)⟩, q4⟩⟩⟩⟩⟩⟩⟩) h
 ·simp at h
end Go.AM
namespace Go.AM
open Go Go.Proofs
noncomputable def r56_L0 (call : CallF) (fuel base : Nat) (kx0 : Value → Value → Value → Value → M → Res2) (n : Nat) : Value → Value → Value → Value → Value → M → Res2 :=
 Nat.rec (motive := fun _ => Value → Value → Value → Value → Value → M → Res2) (fun _ _ _ _ _ _ => none)
  (fun _ ih x1 x2 x8 x9 x10 m =>
   (k1 (mnil x9) fun u62 => (k1 (mfieldAddr E.P 96 u62 0) fun u63 => (k1 (xload E.P m 22 u63) fun u64 => (k2 (vcall E.P base m .len [22] [u64]) fun u65 m => (k1 (mbin E .lss 3 x10 u65) fun u66 => (kb u66 (k1 (mbin E .neq 3 x10 x2) fun u67 => (kb u67 (k1 (mnil x9) fun u68 => (k1 (mfieldAddr E.P 96 u68 1) fun u69 => (k1 (xload E.P m 80 u69) fun u70 => (k1 (mindexAddr E.P 80 u70 x2) fun u71 => (k1 (xload E.P m 22 u71) fun u72 => (k1 (mnil x9) fun u73 => (k1 (mfieldAddr E.P 96 u73 1) fun u74 => (k1 (xload E.P m 80 u74) fun u75 => (k1 (mindexAddr E.P 80 u75 x2) fun u76 => (k1 (xload E.P m 22 u76) fun u77 => (k1 (mindexAddr E.P 22 u77 x10) fun u78 => (k1 (xload E.P m 3 u78) fun u79 => (k1 (mfieldAddr E.P 109 x8 1) fun u80 => (k1 (xload E.P m 22 u80) fun u81 => (k1 (mindexAddr E.P 22 u81 x10) fun u82 => (k1 (xload E.P m 3 u82) fun u83 => (k2 (vcall E.P base m .max [3, 3] [u79, u83]) fun u84 m => (k1 (mindexAddr E.P 22 u72 x10) fun u85 => (ks (xstore E.P base m 3 u85 u84) fun m => (k1 (mbin E .add 3 x10 (.int .i64 1)) fun u86 => (ih x1 x2 x8 x9 u86 m))))))))))))))))))))) (k1 (mbin E .add 3 x10 (.int .i64 1)) fun u87 => (ih x1 x2 x8 x9 u87 m)))) (kx0 x1 x2 x8 x9 m)))))))) n
noncomputable def r56_L2 (call : CallF) (fuel base : Nat) (kx2 : Value → M → Res2) (n : Nat) : Value → Value → Value → Value → Value → M → Res2 :=
 Nat.rec (motive := fun _ => Value → Value → Value → Value → Value → M → Res2) (fun _ _ _ _ _ _ => none)
  (fun _ ih x1 x2 x8 x9 x11 m =>
   (k1 (mnil x9) fun u95 => (k1 (mfieldAddr E.P 96 u95 4) fun u96 => (k1 (xload E.P m 94 u96) fun u97 => (k2 (vcall E.P base m .len [94] [u97]) fun u98 m => (k1 (mbin E .lss 3 x11 u98) fun u99 => (kb u99 (k1 (mnil x9) fun u100 => (k1 (mfieldAddr E.P 96 u100 4) fun u101 => (k1 (xload E.P m 94 u101) fun u102 => (k1 (mindexAddr E.P 94 u102 x11) fun u103 => (k1 (mfieldAddr E.P 140 u103 0) fun u104 => (k1 (xload E.P m 86 u104) fun u105 => (k1 (mindexAddr E.P 86 u105 x2) fun u106 => (k1 (xload E.P m 4 u106) fun u107 => (kb u107 (k1 (mnil x9) fun u108 => (k1 (mfieldAddr E.P 96 u108 4) fun u109 => (k1 (xload E.P m 94 u109) fun u110 => (k1 (mindexAddr E.P 94 u110 x11) fun u111 => (k1 (mfieldAddr E.P 140 u111 3) fun u112 => (k1 (xload E.P m 84 u112) fun u113 => (k1 (mindexAddr E.P 84 u113 x1) fun u114 => (k1 (xload E.P m 86 u114) fun u115 => (k1 (mindexAddr E.P 86 u115 x2) fun u116 => (k1 (xload E.P m 4 u116) fun u117 => (k1 (mun .not u117) fun u118 => (kb u118 (k1 (mnil x9) fun u119 => (k1 (mfieldAddr E.P 96 u119 4) fun u120 => (kexv (mexact m u120) (k1 (xload E.P m 94 u120) fun u121 => (k1 (mindexAddr E.P 94 u121 x11) fun u122 => (k1 (mfieldAddr E.P 140 u122 4) fun u123 => (kexv (mexact m u123) (k1 (xload E.P m 60 u123) fun u124 => (k1 (mindexAddr E.P 60 u124 x1) fun u125 => (kexv (mexact m u125) (k1 (xload E.P m 80 u125) fun u126 => (k1 (mnil x9) fun u127 => (k1 (mfieldAddr E.P 96 u127 4) fun u128 => (k1 (xload E.P m 94 u128) fun u129 => (k1 (mindexAddr E.P 94 u129 x11) fun u130 => (k1 (mfieldAddr E.P 140 u130 4) fun u131 => (k1 (xload E.P m 60 u131) fun u132 => (k1 (mindexAddr E.P 60 u132 x1) fun u133 => (k1 (xload E.P m 80 u133) fun u134 => (k1 (mindexAddr E.P 80 u134 x2) fun u135 => (k1 (xload E.P m 22 u135) fun u136 => (k1 (mfieldAddr E.P 109 x8 0) fun u137 => (k1 (xload E.P m 3 u137) fun u138 => (k2 (xbuildSlice E.P m 22 1 [(0, u138)]) fun u139 m => (kexv (mdifV [u136, u139] [u120, u123, u125]) (k2 (vcall E.P base m .append [22, 22] [u136, u139]) fun u140 m => (k1 (mindexAddr E.P 80 u126 x2) fun u141 => (ks (xstore E.P base m 22 u141 u140) fun m => (k1 (mbin E .add 3 x11 (.int .i64 1)) fun u142 => (ih x1 x2 x8 x9 u142 m)))))))))))))))))))))))))))))) (k1 (mbin E .add 3 x11 (.int .i64 1)) fun u143 => (ih x1 x2 x8 x9 u143 m)))))))))))))) (k1 (mbin E .add 3 x11 (.int .i64 1)) fun u144 => (ih x1 x2 x8 x9 u144 m))))))))))) (kx2 x9 m)))))))) n
noncomputable def r56 (call : CallF) (fuel base : Nat) (x0 : Value) (x1 : Value) (x2 : Value) (m : M) : Res2 :=
 (kc (call base 60 [x0, x1, x2] m) (fun u1 m => (k1 (mbin E .neq 26 u1 (.int .i64 0)) fun u2 => (kb u2 (some (.ret (.tuple #[x0, (.int .i64 2)]), m)) (k1 (mnil x0) fun u3 => (k1 (mfieldAddr E.P 96 u3 2) fun u4 => (k1 (xload E.P m 93 u4) fun u5 => (k1 (mindexAddr E.P 93 u5 x1) fun u6 => (k1 (xload E.P m 97 u6) fun u7 => (k1 (mindexAddr E.P 97 u7 x2) fun u8 => (k1 (xload E.P m 107 u8) fun u9 => (k2 (vcall E.P base m .len [107] [u9]) fun u10 m => (k1 (mbin E .eql 3 u10 (.int .i64 0)) fun u11 => (kb u11 (some (.ret (.tuple #[x0, (.int .i64 6)]), m)) (k1 (mnil x0) fun u12 => (k1 (mfieldAddr E.P 96 u12 2) fun u13 => (k1 (xload E.P m 93 u13) fun u14 => (k1 (mindexAddr E.P 93 u14 x1) fun u15 => (k1 (xload E.P m 97 u15) fun u16 => (k1 (mindexAddr E.P 97 u16 x2) fun u17 => (k1 (xload E.P m 107 u17) fun u18 => (k1 (mindexAddr E.P 107 u18 (.int .i64 0)) fun u19 => (k1 (xload E.P m 109 u19) fun u20 => (k2 (xalloc E.P m 109) fun u21 m => (ks (xstore E.P base m 109 u21 u20) fun m => (k1 (mfieldAddr E.P 109 u21 0) fun u22 => (k1 (xload E.P m 3 u22) fun u23 => (k1 (mbin E .gtr 3 u23 (.int .i64 0)) fun u24 => (kb u24 (k1 (mnil x0) fun u25 => (k1 (mfieldAddr E.P 96 u25 3) fun u26 => (k1 (xload E.P m 45 u26) fun u27 => (k2 (vcall E.P base m .len [45] [u27]) fun u28 m => (k1 (mbin E .geq 3 u28 (.int .i64 400)) fun u29 => (kb u29 (some (.ret (.tuple #[x0, (.int .i64 8)]), m)) (kc (call base 94 [x0] m) (fun u30 m => (k1 (mnil u30) fun u31 => (k1 (mfieldAddr E.P 96 u31 2) fun u32 => (k1 (xload E.P m 93 u32) fun u33 => (k1 (mindexAddr E.P 93 u33 x1) fun u34 => (k1 (xload E.P m 97 u34) fun u35 => (k1 (mnil u30) fun u36 => (k1 (mfieldAddr E.P 96 u36 2) fun u37 => (k1 (xload E.P m 93 u37) fun u38 => (k1 (mindexAddr E.P 93 u38 x1) fun u39 => (k1 (xload E.P m 97 u39) fun u40 => (k1 (mindexAddr E.P 97 u40 x2) fun u41 => (k1 (xload E.P m 107 u41) fun u42 => (k1 (mslice E.P m 107 u42 (some (.int .i64 1)) none none) fun u43 => (k1 (mindexAddr E.P 97 u35 x2) fun u44 => (ks (xstore E.P base m 107 u44 u43) fun m => (k1 (mfieldAddr E.P 109 u21 0) fun u45 => (k1 (xload E.P m 3 u45) fun u46 => (k1 (mbin E .lss 3 u46 (.int .i64 0)) fun u47 => (kb u47 (k1 (mfieldAddr E.P 109 u21 0) fun u48 => (k1 (xload E.P m 3 u48) fun u49 => (k1 (mun .neg u49) fun u50 => (k1 (mbin E .sub 3 u50 (.int .i64 1)) fun u51 => (kc (call base 98 [u30, u51, x1, x2] m) (fun u52 m => (some (.ret (.tuple #[u30, (.int .i64 0)]), m))) (fun v m => some (.pan v, m))))))) (k1 (mnil u30) fun u53 => (k1 (mfieldAddr E.P 96 u53 0) fun u54 => (k1 (xload E.P m 22 u54) fun u55 => (k1 (mindexAddr E.P 22 u55 x2) fun u56 => (k1 (xload E.P m 3 u56) fun u57 => (k1 (mfieldAddr E.P 109 u21 0) fun u58 => (k1 (xload E.P m 3 u58) fun u59 => (k1 (mbin E .add 3 u57 u59) fun u60 => (k1 (mindexAddr E.P 22 u55 x2) fun u61 => (ks (xstore E.P base m 3 u61 u60) fun m => (r56_L0 call fuel base (fun w88 w89 w90 w91 m => (k1 (mfieldAddr E.P 109 w90 0) fun u92 => (k1 (xload E.P m 3 u92) fun u93 => (kc (call base 95 [w91, w89, (.int .i64 3), w88, u93] m) (fun u94 m => (r56_L2 call fuel base (fun w145 m => (some (.ret (.tuple #[w145, (.int .i64 0)]), m))) fuel w88 w89 w90 w91 (.int .i64 0) m)) (fun v m => some (.pan v, m)))))) fuel x1 x2 u21 u30 (.int .i64 0) m))))))))))))))))))))))))))))))) (fun v m => some (.pan v, m))))))))) (kc (call base 94 [x0] m) (fun u146 m => (k1 (mnil u146) fun u147 => (k1 (mfieldAddr E.P 96 u147 2) fun u148 => (k1 (xload E.P m 93 u148) fun u149 => (k1 (mindexAddr E.P 93 u149 x1) fun u150 => (k1 (xload E.P m 97 u150) fun u151 => (k1 (mnil u146) fun u152 => (k1 (mfieldAddr E.P 96 u152 2) fun u153 => (k1 (xload E.P m 93 u153) fun u154 => (k1 (mindexAddr E.P 93 u154 x1) fun u155 => (k1 (xload E.P m 97 u155) fun u156 => (k1 (mindexAddr E.P 97 u156 x2) fun u157 => (k1 (xload E.P m 107 u157) fun u158 => (k1 (mslice E.P m 107 u158 (some (.int .i64 1)) none none) fun u159 => (k1 (mindexAddr E.P 97 u151 x2) fun u160 => (ks (xstore E.P base m 107 u160 u159) fun m => (k1 (mfieldAddr E.P 109 u21 0) fun u161 => (k1 (xload E.P m 3 u161) fun u162 => (k1 (mbin E .lss 3 u162 (.int .i64 0)) fun u163 => (kb u163 (k1 (mfieldAddr E.P 109 u21 0) fun u164 => (k1 (xload E.P m 3 u164) fun u165 => (k1 (mun .neg u165) fun u166 => (k1 (mbin E .sub 3 u166 (.int .i64 1)) fun u167 => (kc (call base 98 [u146, u167, x1, x2] m) (fun u168 m => (some (.ret (.tuple #[u146, (.int .i64 0)]), m))) (fun v m => some (.pan v, m))))))) (k1 (mnil u146) fun u169 => (k1 (mfieldAddr E.P 96 u169 0) fun u170 => (k1 (xload E.P m 22 u170) fun u171 => (k1 (mindexAddr E.P 22 u171 x2) fun u172 => (k1 (xload E.P m 3 u172) fun u173 => (k1 (mfieldAddr E.P 109 u21 0) fun u174 => (k1 (xload E.P m 3 u174) fun u175 => (k1 (mbin E .add 3 u173 u175) fun u176 => (k1 (mindexAddr E.P 22 u171 x2) fun u177 => (ks (xstore E.P base m 3 u177 u176) fun m => (r56_L0 call fuel base (fun w178 w179 w180 w181 m => (k1 (mfieldAddr E.P 109 w180 0) fun u182 => (k1 (xload E.P m 3 u182) fun u183 => (kc (call base 95 [w181, w179, (.int .i64 3), w178, u183] m) (fun u184 m => (r56_L2 call fuel base (fun w185 m => (some (.ret (.tuple #[w185, (.int .i64 0)]), m))) fuel w178 w179 w180 w181 (.int .i64 0) m)) (fun v m => some (.pan v, m)))))) fuel x1 x2 u21 u146 (.int .i64 0) m))))))))))))))))))))))))))))))) (fun v m => some (.pan v, m))))))))))))))))))))))))))))))) (fun v m => some (.pan v, m)))
def keep56 : Keep := { region := fun i => ([[0, 1, 2], [0, 1, 2, 16], [6, 7], [0, 1, 2, 29], [6, 7], [0, 1, 2, 8], [0, 1, 2, 8, 53], [6, 7], [1, 2, 8, 9], [1, 2, 8, 9], [1, 2, 8, 9, 79], [9], [6, 7], [1, 2, 8, 9], [1, 2, 8, 9, 10], [1, 2, 8, 9, 10, 106], [1, 2, 8, 9, 10], [1, 2, 8, 9, 10, 111], [1, 2, 8, 9, 10], [1, 2, 8, 9], [1, 2, 8, 9, 11], [1, 2, 8, 9, 11, 149], [1, 2, 8, 9, 11], [1, 2, 8, 9, 11, 179], [1, 2, 8, 9, 11], [6, 7]] : List (List Nat))[i]?, exit := fun i => ([[1, 2, 8, 9], [1, 2, 8, 9, 10], [9], [1, 2, 8, 9, 11]] : List (List Nat))[i]?, ret := some [6, 7] }
noncomputable def r56_L0_R (call : CallF) (fuel base n : Nat) (vs : List Value) (m : M) (K : KT) : Res2 := match vs with
 | [x1, x2, x8, x9, x10] => r56_L0 call fuel base (fun y1 y2 y8 y9 m => K (.exit 0) { n := 212, l := [(1, y1), (2, y2), (8, y8), (9, y9)] } m) n x1 x2 x8 x9 x10 m
 | _ => none
noncomputable def r56_L2_R (call : CallF) (fuel base n : Nat) (vs : List Value) (m : M) (K : KT) : Res2 := match vs with
 | [x1, x2, x8, x9, x11] => r56_L2 call fuel base (fun y9 m => K (.exit 2) { n := 212, l := [(9, y9)] } m) n x1 x2 x8 x9 x11 m
 | _ => none
noncomputable def lp56 (call : CallF) (fuel base : Nat) : Lp := lpsel [(0, fun T m K => kslots 212 [1, 2, 8, 9, 10] T fun vs => r56_L0_R call fuel base fuel vs m K), (2, fun T m K => kslots 212 [1, 2, 8, 9, 11] T fun vs => r56_L2_R call fuel base fuel vs m K)]
noncomputable def c56 : Code := Try.f56.body.getD .skip
noncomputable def p56_0 : Code := loopB (blockB (seqR (seqL (seqR (seqR (seqR (seqR (seqR (seqR (seqR (seqR (seqR c56))))))))))))
noncomputable def p56_2 : Code := loopB (blockB (seqR (seqL (seqR (seqR (seqR (seqR (seqR (seqR (seqR (seqR (seqR (seqR (seqR c56))))))))))))))
theorem r56_L0_ok (call : CallF) (fuel base : Nat) : LQ lp56 call fuel base 0 p56_0 := by
 refine loop_ok (kp := keep56) (hb := Eq.mpr (show _ = (And B3 (And B3 True)) by kernel_rfl) ⟨q3, ⟨q3, trivial⟩⟩) 212 [1, 2, 8, 9, 10] (r56_L0_R call fuel base) ?_ ?_ (fun _ _ _ => rfl)
 ·intro vs m K
  unfold r56_L0_R
  split <;> rfl
 ·intro n vs m K hl
  match vs, hl with
  | [x1, x2, x8, x9, x10], _ => show _ = _; kernel_rfl
theorem r56_L2_ok (call : CallF) (fuel base : Nat) : LQ lp56 call fuel base 2 p56_2 := by
 refine loop_ok (kp := keep56) (hb := Eq.mpr (show _ = (And B3 (And B3 True)) by kernel_rfl) ⟨q3, ⟨q3, trivial⟩⟩) 212 [1, 2, 8, 9, 11] (r56_L2_R call fuel base) ?_ ?_ (fun _ _ _ => rfl)
 ·intro vs m K
  unfold r56_L2_R
  split <;> rfl
 ·intro n vs m K hl
  match vs, hl with
  | [x1, x2, x8, x9, x11], _ => show _ = _; kernel_rfl
theorem r56_eq (call : CallF) (fuel base : Nat) (x0 : Value) (x1 : Value) (x2 : Value) (m : M) : kbody E call keep56 (lp56 call fuel base) base Try.f56 [x0, x1, x2] m = r56 call fuel base x0 x1 x2 m := by
 kernel_rfl
noncomputable def rf56 : RF := fun call fuel base args m => match args with
 | [x0, x1, x2] => r56 call fuel base x0 x1 x2 m
 | _ => none
theorem rf56_ok : RFok E 56 rf56 := by
 show RFok' E 56 rf56
 refine ⟨Try.f56, (by kernel_rfl), fun call fuel base args m r _ h => ?_⟩
 unfold rf56 at h
 split at h
 ·rw [← r56_eq] at h
  exact kbody_sound (c := c56) (by kernel_rfl) (Eq.mpr (show _ = (And True (And D3 (And D3 (And True (And D3 (And True (And True (And (And True (And B3 True)) (And True (And (And True (LQ lp56 call fuel base 0 p56_0)) (And True (And (And True (LQ lp56 call fuel base 2 p56_2)) B2)))))))))))) by kernel_rfl) ⟨trivial, ⟨e3, ⟨e3, ⟨trivial, ⟨e3, ⟨trivial, ⟨trivial, ⟨⟨trivial, ⟨q3, trivial⟩⟩, ⟨trivial, ⟨⟨trivial, (r56_L0_ok call fuel base)⟩, ⟨trivial, ⟨⟨trivial, (r56_L2_ok call fuel base)⟩, q2⟩⟩⟩⟩⟩⟩⟩⟩⟩⟩⟩⟩) h
 ·simp at h
end Go.AM
namespace Go.AM
open Go Go.Proofs
noncomputable def r57_L0 (call : CallF) (fuel base : Nat) (kp : Value → M → Res2) (kr : Value → M → Res2) (kx0 : M → Res2) (n : Nat) : Value → Value → Value → M → Res2 :=
 Nat.rec (motive := fun _ => Value → Value → Value → M → Res2) (fun _ _ _ _ => none)
  (fun _ ih x0 x1 x5 m =>
   (k2 (vcall E.P base m .len [45] [x0]) fun u4 m => (k1 (mbin E .lss 3 x5 u4) fun u5 => (kb u5 (xlen m fun H_6 => (k1 (mindexAddr E.P 45 x0 x5) fun u7 => (k1 (xload E.P m 72 u7) fun u8 => (k1 (mindexAddr E.P 45 x1 x5) fun u9 => (kexv (mexact m u9) (k1 (xload E.P m 72 u9) fun u10 => (k2 (xalloc E.P m 72) fun u11 m => (k2 (xalloc E.P m 72) fun u12 m => (kexv (mdif u11 [u9]) (ks (xstore E.P base m 72 u11 u8) fun m => (ks (xstore E.P base m 72 u12 u10) fun m => (k1 (mfieldAddr E.P 72 u11 0) fun u13 => (k1 (xload E.P m 3 u13) fun u14 => (k1 (mfieldAddr E.P 72 u12 0) fun u15 => (k1 (xload E.P m 3 u15) fun u16 => (k1 (mbin E .neq 3 u14 u16) fun u17 => (kb u17 (kr (.bool false) m) (k1 (mfieldAddr E.P 72 u11 1) fun u18 => (k1 (xload E.P m 3 u18) fun u19 => (k1 (mfieldAddr E.P 72 u12 1) fun u20 => (k1 (xload E.P m 3 u20) fun u21 => (k1 (mbin E .neq 3 u19 u21) fun u22 => (kb u22 (kr (.bool false) m) (k1 (mfieldAddr E.P 72 u11 2) fun u23 => (k1 (xload E.P m 3 u23) fun u24 => (k1 (mfieldAddr E.P 72 u12 2) fun u25 => (k1 (xload E.P m 3 u25) fun u26 => (k1 (mbin E .neq 3 u24 u26) fun u27 => (kb u27 (kr (.bool false) m) (k1 (mfieldAddr E.P 72 u11 3) fun u28 => (k1 (xload E.P m 3 u28) fun u29 => (k1 (mfieldAddr E.P 72 u12 3) fun u30 => (k1 (xload E.P m 3 u30) fun u31 => (k1 (mbin E .neq 3 u29 u31) fun u32 => (kb u32 (kr (.bool false) m) (k1 (mfieldAddr E.P 72 u11 4) fun u33 => (k1 (xload E.P m 22 u33) fun u34 => (k1 (mfieldAddr E.P 72 u12 4) fun u35 => (k1 (xload E.P m 22 u35) fun u36 => (kc (call base 17 [u34, u36] m) (fun u37 m => (k1 (mun .not u37) fun u38 => (kb u38 (kr (.bool false) m) (k1 (mbin E .add 3 x5 (.int .i64 1)) fun u39 => (ih x0 x1 u39 m))))) (fun v m => kp v m))))))))))))))))))))))))))))))))))))))))) (kx0 m))))) n
noncomputable def r57 (call : CallF) (fuel base : Nat) (x0 : Value) (x1 : Value) (m : M) : Res2 :=
 (k2 (vcall E.P base m .len [45] [x0]) fun u1 m => (k2 (vcall E.P base m .len [45] [x1]) fun u2 m => (k1 (mbin E .neq 3 u1 u2) fun u3 => (kb u3 (fVal (.bool false) fun v => some (.ret v, m)) (r57_L0 call fuel base (fun v m => some (.pan v, m)) (fun w40 m => (fVal w40 fun v => some (.ret v, m))) (fun m => (fVal (.bool true) fun v => some (.ret v, m))) fuel x0 x1 (.int .i64 0) m)))))
def keep57 : Keep := { region := fun i => ([[0, 1], [0, 1, 12], [4], [0, 1, 5], [0, 1, 5, 16], [0, 1, 5], [0, 1, 5, 6, 7], [0, 1, 5, 60], [4], [4]] : List (List Nat))[i]?, exit := fun i => ([[], [0, 1, 5]] : List (List Nat))[i]?, ret := some [4] }
noncomputable def r57_L0_R (call : CallF) (fuel base n : Nat) (vs : List Value) (m : M) (K : KT) : Res2 := match vs with
 | [x0, x1, x5] => r57_L0 call fuel base (fun v m => K (.pan v) { n := 61, l := [] } m) (fun y4 m => K .ret { n := 61, l := [(4, y4)] } m) (fun m => K (.exit 0) { n := 61, l := [] } m) n x0 x1 x5 m
 | _ => none
noncomputable def lp57 (call : CallF) (fuel base : Nat) : Lp := lpsel [(0, fun T m K => kslots 61 [0, 1, 5] T fun vs => r57_L0_R call fuel base fuel vs m K)]
noncomputable def c57 : Code := Try.f57.body.getD .skip
noncomputable def p57_0 : Code := loopB (blockB (seqR (seqL (seqR (seqR c57)))))
theorem r57_L0_ok (call : CallF) (fuel base : Nat) : LQ lp57 call fuel base 0 p57_0 := by
 refine loop_ok (kp := keep57) (hb := Eq.mpr (show _ = (And B3 (And (And True D3) True)) by kernel_rfl) ⟨q3, ⟨⟨trivial, e3⟩, trivial⟩⟩) 61 [0, 1, 5] (r57_L0_R call fuel base) ?_ ?_ (fun _ _ _ => rfl)
 ·intro vs m K
  unfold r57_L0_R
  split <;> rfl
 ·intro n vs m K hl
  match vs, hl with
  | [x0, x1, x5], _ => show _ = _; kernel_rfl
theorem r57_eq (call : CallF) (fuel base : Nat) (x0 : Value) (x1 : Value) (m : M) : kbody E call keep57 (lp57 call fuel base) base Try.f57 [x0, x1] m = r57 call fuel base x0 x1 m := by
 kernel_rfl
noncomputable def rf57 : RF := fun call fuel base args m => match args with
 | [x0, x1] => r57 call fuel base x0 x1 m
 | _ => none
theorem rf57_ok : RFok E 57 rf57 := by
 show RFok' E 57 rf57
 refine ⟨Try.f57, (by kernel_rfl), fun call fuel base args m r _ h => ?_⟩
 unfold rf57 at h
 split at h
 ·rw [← r57_eq] at h
  exact kbody_sound (c := c57) (by kernel_rfl) (Eq.mpr (show _ = (And True (And D3 (And (And True (LQ lp57 call fuel base 0 p57_0)) B2))) by kernel_rfl) ⟨trivial, ⟨e3, ⟨⟨trivial, (r57_L0_ok call fuel base)⟩, q2⟩⟩⟩) h
 ·simp at h
end Go.AM
