import Derived.KernelRfl
import Derived.Laws.BytesArg
import Derived.Laws.StructEq
import Derived.Test.YtkjeeiifhbmnnaaRows
import Derived.WalkKit
import Derived.Test.YtkjeeiifhbmnnaaAmB
import Derived.Test.YtkjeeiifhbmnnaaAmModel
import Derived.Test.YtkjeeiifhbmnnaaAmOps5
import Derived.Test.YtkjeeiifhbmnnaaAmOps6
import Derived.Test.YtkjeeiifhbmnnaaAmCode
import Derived.Test.YtkjeeiifhbmnnaaAmX
import Derived.Test.YtkjeeiifhbmnnaaAmEq
import Derived.Test.YtkjeeiifhbmnnaaRBase
import Derived.Test.YtkjeeiifhbmnnaaR94
import Derived.Test.YtkjeeiifhbmnnaaAmS
import Derived.Test.YtkjeeiifhbmnnaaS16
import Derived.Test.YtkjeeiifhbmnnaaS17
import Derived.Test.YtkjeeiifhbmnnaaWB
set_option linter.unusedVariables false
set_option linter.unusedSimpArgs false
set_option linter.unusedSectionVars false
namespace Go.AM
open Go Go.Proofs
theorem r122_L0_s (call : CallF) (fuel base : Nat) (kp : Value → M → Res2) (kx0 : M → Res2) (n : Nat) (x0 x2 x11 x12 x13 : Value) (m : M) : r122_L0 call fuel base kp kx0 (n + 1) x0 x2 x11 x12 x13 m =
    (k1n (mbin E .lss 3 x13 x12) fun v14_3 => (kb v14_3 (k1n (mindexAddr E.P 33 x11 x13) fun v16_4 => (k1n (xload E.P m 3 v16_4) fun v17_5 => (k1n (mbin E .eql 3 v17_5 (.int .i64 0)) fun v19_6 => (kb v19_6 (k1n (mbin E .add 3 x13 (.int .i64 1)) fun v39_7 => (r122_L0 call fuel base kp kx0 n x0 x2 x11 x12 v39_7 m)) (k1n (mindexAddr E.P 103 x0 x13) fun v22_8 => (k1n (xload E.P m 33 v22_8) fun v23_9 => (k2 (vcalln E.P base m .len [33] [v23_9]) fun v24_10 m => (r122_L2 call fuel base (fun v m => kp v m) (fun y0_19 y2_20 y11_21 y12_22 y13_23 m => (k1n (mbin E .add 3 y13_23 (.int .i64 1)) fun v39_24 => (r122_L0 call fuel base kp kx0 n y0_19 y2_20 y11_21 y12_22 v39_24 m))) fuel x0 x2 v17_5 x11 x12 x13 v23_9 v24_10 (.int .i64 0) m)))))))) (kx0 m))) := by
  unfold r122_L0
  rw [k1_fun, vcall_fun]
theorem r122_L2_s (call : CallF) (fuel base : Nat) (kp : Value → M → Res2) (kx2 : Value → Value → Value → Value → Value → M → Res2) (n : Nat) (x0 x2 x7 x11 x12 x13 x23 x24 x25 : Value) (m : M) : r122_L2 call fuel base kp kx2 (n + 1) x0 x2 x7 x11 x12 x13 x23 x24 x25 m =
    (k1n (mbin E .lss 3 x25 x24) fun v26_11 => (kb v26_11 (k1n (mindexAddr E.P 33 x23 x25) fun v27_12 => (k1n (xload E.P m 3 v27_12) fun v28_13 => (k1n (mindexAddr E.P 33 x2 v28_13) fun v33_14 => (k1n (xload E.P m 3 v33_14) fun v34_15 => (kc (call base 99 [v34_15, x7] m) (fun v36_16 m => (k1n (mindexAddr E.P 33 x2 v28_13) fun v37_17 => (ks (xstore E.P base m 3 v37_17 v36_16) fun m => (k1n (mbin E .add 3 x25 (.int .i64 1)) fun v38_18 => (r122_L2 call fuel base kp kx2 n x0 x2 x7 x11 x12 x13 x23 x24 v38_18 m))))) (fun v m => kp v m)))))) (kx2 x0 x2 x11 x12 x13 m))) := by
  unfold r122_L2
  rw [k1_fun]
theorem r104_L0_s (call : CallF) (fuel base : Nat) (kp : Value → M → Res2) (kx0 : Value → M → Res2) (n : Nat) (x2 x5 x11 x12 : Value) (m : M) : r104_L0 call fuel base kp kx0 (n + 1) x2 x5 x11 x12 m =
    (k1n (mbin E .lss 3 x12 x11) fun v13_5 => (kb v13_5 (k1n (mfieldAddr E.P 76 x2 0) fun v17_6 => (k1n (xload E.P m 3 v17_6) fun v18_7 => (kc (call base 94 [v18_7] m) (fun v19_8 m => (k2 (xmakeSlice E.P m 33 v19_8 v19_8) fun v20_9 m => (k1n (mindexAddr E.P 23 x5 x12) fun v21_10 => (ks (xstore E.P base m 33 v21_10 v20_9) fun m => (k1n (mbin E .add 3 x12 (.int .i64 1)) fun v22_11 => (r104_L0 call fuel base kp kx0 n x2 x5 x11 v22_11 m)))))) (fun v m => kp v m)))) (kx0 x5 m))) := by
  unfold r104_L0
  rw [k1_fun]
theorem r117_L0_s (call : CallF) (fuel base : Nat) (kx0 : M → Res2) (n : Nat) (x0 x1 x7 x8 : Value) (m : M) : r117_L0 call fuel base kx0 (n + 1) x0 x1 x7 x8 m =
    (k1n (mbin E .lss 3 x8 x7) fun v9_3 => (kb v9_3 (k1n (mindexAddr E.P 23 x1 x8) fun v14_4 => (k1n (xload E.P m 33 v14_4) fun v15_5 => (k1n (mbin E .add 3 x8 (.int .i64 1)) fun v18_6 => (k1n (mindexAddr E.P 23 x1 v18_6) fun v19_7 => (k1n (xload E.P m 33 v19_7) fun v20_8 => (kc (call base 122 [x0, v15_5, v20_8] m) (fun v21_9 m => (k1n (mbin E .add 3 x8 (.int .i64 1)) fun v22_10 => (r117_L0 call fuel base kx0 n x0 x1 x7 v22_10 m))) (fun _ _ => none))))))) (kx0 m))) := by
  unfold r117_L0
  rw [k1_fun]
/-- Sums that stop at one more than the greatest count. -/
def satS (a b : Nat) : Nat := min (a + b) 1099511627777
theorem satS_le (a b : Nat) : satS a b ≤ 1099511627777 := Nat.min_le_right _ _
theorem min3 (base : Nat) (m : M) (x y : Int) : vcalln E.P base m .min [3, 3] [vi x, vi y] = some (vi (if y < x then y else x), m) := by kernel_rfl
theorem t99 (n base : Nat) (a b : Nat) (ha : a ≤ 1099511627777) (hb : b ≤ 1099511627777) (m : M) : rt (n + 1) base 99 [vi a, vi b] m = some (.ret (vi (satS a b)), m) := by
  refine rt_pure (f := 99) (rf := rf99) (by kernel_rfl) (by kernel_rfl) (by kernel_rfl) n base _ m m _ ?_ rfl
  show r99 (rt n) n m.length (vi a) (vi b) m = _
  unfold r99 satS
  rw [k1_fun, fVal_fun, vcall_fun, add3, k1s, wr_id (by omega) (by omega), show (.int .i64 1099511627777 : Value) = vi 1099511627777 from rfl, min3, k2s]
  by_cases h : (1099511627777 : Int) < (a : Int) + b
  · rw [if_pos h, show min (a + b) 1099511627777 = 1099511627777 by omega]; rfl
  · rw [if_neg h, show min (a + b) 1099511627777 = a + b by omega]; rfl
/-- A list of counts in memory. -/
def VecM (m : M) (p C : Nat) (F : Nat → Nat) : Prop := m[p]? = some (rowz 1 true ((List.range C).map fun j => vi (F j)))
theorem VecM.ld {m : M} {p C : Nat} {F : Nat → Nat} (h : VecM m p C F) {k : Nat} (hk : k < C) : xload E.P m 3 (pt p k) = some (vi (F k)) := by
  rw [ld3]
  unfold mcell
  rw [h]
  show ((List.range C).map fun j => vi (F j))[k]? = _
  rw [List.getElem?_map, List.getElem?_range hk]
  rfl
theorem VecM.st {base : Nat} {m : M} {p C : Nat} {F : Nat → Nat} (h : VecM m p C F) (hb : base ≤ p) {k : Nat} (hk : k < C) (x : Nat) : ∃ m', xstore E.P base m 3 (pt p k) (vi x) = some m' ∧ VecM m' p C (fun j => if j = k then x else F j) ∧ m'.length = m.length ∧ ∀ i, i ≠ p → m'[i]? = m[i]? := by
  refine ⟨_, by rw [st3, mwrite_one hb h rfl (by show k < ((List.range C).map _).length; simpa using hk) rfl], ?_, by simp, fun i hi => List.getElem?_set_ne (Ne.symm hi)⟩
  show (m.set p _)[p]? = _
  rw [List.getElem?_set_self (List.getElem?_eq_some_iff.1 h).1]
  show some (rowz 1 true (((List.range C).map fun j => vi (F j)).set k (vi x))) = _
  rw [set_range hk]
  congr 2
  apply List.map_congr_left
  intro i _
  by_cases e : i = k
  · rw [if_pos e]; show vi x = vi ((if i = k then x else F i : Nat) : Int); rw [if_pos e]
  · rw [if_neg e]; show vi (F i) = vi ((if i = k then x else F i : Nat) : Int); rw [if_neg e]
def addAll (n : Nat) : List Int → (Nat → Nat) → Nat → Nat
  | [], T => T
  | o :: os, T => addAll n os (fun j => if j = o.toNat then satS (T o.toNat) n else T j)
theorem addAll_le {n : Nat} : ∀ (os : List Int) (T : Nat → Nat), (∀ j, T j ≤ 1099511627777) → ∀ j, addAll n os T j ≤ 1099511627777
  | [], T, h, j => h j
  | o :: os, T, h, j => addAll_le os _ (fun i => by split; exact satS_le _ _; exact h i) j
theorem loop122b (n0 base : Nat) (kp : Value → M → Res2) (kx : Value → Value → Value → Value → Value → M → Res2) (x0 x11 x12 x13 : Value) {m0 : M} {p C : Nat} (hbb : base ≤ p) {u : Value} {os : List Int} (hu : ∀ m : M, (∀ i, i ≠ p → m[i]? = m0[i]?) → Ints m u os) (hos : ∀ o ∈ os, ∃ a : Nat, o = a ∧ a < C) (hol : os.length ≤ 1000000) (c : Nat) (hc : c ≤ 1099511627777) :
    ∀ (n j : Nat) (T : Nat → Nat) (m : M), (∀ i, T i ≤ 1099511627777) → VecM m p C T → (∀ i, i ≠ p → m[i]? = m0[i]?) → j ≤ os.length → os.length < n + j →
      ∃ m', r122_L2 (rt (n0 + 1)) (n0 + 1) base kp kx n x0 (sl p C) (vi c) x11 x12 x13 u (vi os.length) (vi j) m = kx x0 (sl p C) x11 x12 x13 m' ∧ VecM m' p C (addAll c (os.drop j) T) ∧ m'.length = m.length ∧ ∀ i, i ≠ p → m'[i]? = m0[i]?
  | 0, j, T, m, hT, hV, ho, hj, hn => by omega
  | n + 1, j, T, m, hT, hV, ho, hj, hn => by
    rw [r122_L2_s, lss_nat, k1s]
    by_cases hlt : j < os.length
    · obtain ⟨a, ea, ha⟩ := hos os[j] (List.getElem_mem hlt)
      obtain ⟨m1, e1, V1, l1, o1⟩ := hV.st hbb ha (satS (T a) c)
      rw [decide_eq_true hlt, kbt, (hu m ho).get hlt, ea, ix33 _ _ _ _ ha, k1s, hV.ld ha, k1s, t99 n0 base _ _ (hT a) hc, kcs, k1s, e1, kss, add1 j (by omega), k1s]
      obtain ⟨m', z1, z2, z3, z4⟩ := loop122b n0 base kp kx x0 x11 x12 x13 hbb hu hos hol c hc n (j + 1) _ m1 (fun i => by split; exact satS_le _ _; exact hT i) V1 (fun i hi => (o1 i hi).trans (ho i hi)) (by omega) (by omega)
      refine ⟨m', z1, ?_, z3.trans l1, z4⟩
      rw [List.drop_eq_getElem_cons hlt]
      show VecM m' p C (addAll c (os.drop (j + 1)) (fun i => if i = os[j].toNat then satS (T os[j].toNat) c else T i))
      rw [ea, Int.toNat_natCast]
      exact z2
    · rw [decide_eq_false hlt, kbf, List.drop_eq_nil_of_le (by omega)]
      exact ⟨m, rfl, hV, rfl, ho⟩
/-- All links followed: F is what there is, f the links, T what has come. -/
def folL (F : Nat → Nat) (f : Nat → List Int) : Nat → Nat → (Nat → Nat) → Nat → Nat
  | 0, _, T => T
  | k + 1, j, T => folL F f k (j + 1) (if F j = 0 then T else addAll (F j) (f j) T)
theorem folL_le {F : Nat → Nat} {f : Nat → List Int} : ∀ (k j : Nat) (T : Nat → Nat), (∀ i, T i ≤ 1099511627777) → ∀ i, folL F f k j T i ≤ 1099511627777
  | 0, j, T, h, i => h i
  | k + 1, j, T, h, i => folL_le k (j + 1) _ (by intro i; split; exact h i; exact addAll_le _ _ h i) i
theorem loop122 (n0 base : Nat) (kp : Value → M → Res2) (kx : M → Res2) {m0 : M} {pl p1 p C : Nat} (hbb : base ≤ p) (hp1 : p1 ≠ p) {V : Nat → Value} {f : Nat → List Int} {F : Nat → Nat} (hF : ∀ i, F i ≤ 1099511627777) (h1 : VecM m0 p1 C F)
    (hl : ∀ j, j < C → ∀ m : M, (∀ i, i ≠ p → m[i]? = m0[i]?) → xload E.P m 33 (pt pl j) = some (V j) ∧ Ints m (V j) (f j)) (hos : ∀ j, ∀ o ∈ f j, ∃ a : Nat, o = a ∧ a < C) (hol : ∀ j, (f j).length < n0 + 1) (hol2 : ∀ j, (f j).length ≤ 1000000) (hC : C ≤ 1000000) :
    ∀ (n j : Nat) (T : Nat → Nat) (m : M), (∀ i, T i ≤ 1099511627777) → VecM m p C T → (∀ i, i ≠ p → m[i]? = m0[i]?) → j ≤ C → C < n + j →
      ∃ m', r122_L0 (rt (n0 + 1)) (n0 + 1) base kp kx n (sl pl C) (sl p C) (sl p1 C) (vi C) (vi j) m = kx m' ∧ VecM m' p C (folL F f (C - j) j T) ∧ m'.length = m.length ∧ ∀ i, i ≠ p → m'[i]? = m0[i]?
  | 0, j, T, m, hT, hV, ho, hj, hn => by omega
  | n + 1, j, T, m, hT, hV, ho, hj, hn => by
    rw [r122_L0_s, lss_nat, k1s]
    by_cases hlt : j < C
    · have hV1 : VecM m p1 C F := (ho p1 hp1).trans h1
      rw [decide_eq_true hlt, kbt, ix33 _ _ _ _ hlt, k1s, hV1.ld hlt, k1s, show (.int .i64 0 : Value) = vi 0 from rfl, eql3, k1s, show C - j = (C - (j + 1)) + 1 by omega]
      show ∃ m', _ ∧ VecM m' p C (folL F f (C - (j + 1)) (j + 1) (if F j = 0 then T else addAll (F j) (f j) T)) ∧ _
      by_cases h0 : F j = 0
      · rw [decide_eq_true (by omega), kbt, add1 j (by omega), k1s, if_pos h0]
        exact loop122 n0 base kp kx hbb hp1 hF h1 hl hos hol hol2 hC n (j + 1) T m hT hV ho (by omega) (by omega)
      · obtain ⟨e1, I1⟩ := hl j hlt m ho
        rw [decide_eq_false (by omega), kbf, ix103 _ _ _ _ hlt, k1s, e1, k1s, I1.len, k2s, if_neg h0, show (vi 0 : Value) = vi ((0 : Nat) : Int) from rfl]
        obtain ⟨m1, z1, z2, z3, z4⟩ := loop122b n0 base (fun v m => kp v m) (fun y0_19 y2_20 y11_21 y12_22 y13_23 m => (k1n (mbin E .add 3 y13_23 (.int .i64 1)) fun v39_24 => (r122_L0 (rt (n0 + 1)) (n0 + 1) base kp kx n y0_19 y2_20 y11_21 y12_22 v39_24 m))) (sl pl C) (sl p1 C) (vi C) (vi j) hbb (fun m h => (hl j hlt m h).2) (hos j) (hol2 j) (F j) (hF j) (n0 + 1) 0 T m hT hV ho (Nat.zero_le _) (by have := hol j; omega)
        rw [List.drop_zero] at z2
        rw [z1, add1 j (by omega), k1s]
        obtain ⟨m', y1, y2, y3, y4⟩ := loop122 n0 base kp kx hbb hp1 hF h1 hl hos hol hol2 hC n (j + 1) _ m1 (addAll_le _ _ hT) z2 z4 (by omega) (by omega)
        exact ⟨m', y1, y2, y3.trans z3, y4⟩
    · rw [decide_eq_false hlt, kbf, show C - j = 0 by omega]
      exact ⟨m, rfl, hV, rfl, ho⟩
theorem clear33 (base : Nat) (m : M) (p C : Nat) : vcalln E.P base m .clear [33] [sl p C] = (mwrite base m p 0 (repCells [.int .i64 0] C)).map fun m' => (.tuple #[], m') := by kernel_rfl
theorem VecM.clear {base : Nat} {m : M} {p C : Nat} {F : Nat → Nat} (h : VecM m p C F) (hb : base ≤ p) : ∃ m', (∀ K : Value → M → Res2, k2 (vcalln E.P base m .clear [33] [sl p C]) K = K (.tuple #[]) m') ∧ VecM m' p C (fun _ => 0) ∧ m'.length = m.length ∧ ∀ i, i ≠ p → m'[i]? = m[i]? := by
  have hr := h
  unfold VecM at hr
  have hlen : (repCells [.int .i64 0] C : List Value).length = C := repCells_len _ _
  have hall : (repCells [.int .i64 0] C : List Value).all (·.oneCell') = true := by
    rw [repCells_range1, List.all_eq_true]
    intro x hx
    obtain ⟨_, _, rfl⟩ := List.mem_map.1 hx
    rfl
  refine ⟨m.set p (rowz 1 true (repCells [.int .i64 0] C)), fun K => ?_, ?_, by simp, fun i hi => List.getElem?_set_ne (Ne.symm hi)⟩
  · rw [clear33]
    unfold mwrite
    rw [if_neg (by omega), hr]
    simp only [rowz, Bool.false_eq_true, if_false, hall, if_true, fList_eq, Nat.zero_add, hlen]
    rw [if_pos (by simp)]
    simp only [Option.map_some, k2s, splice]
    congr 3
    simp [hlen]
  · show (m.set p _)[p]? = _
    rw [List.getElem?_set_self (List.getElem?_eq_some_iff.1 hr).1, repCells_range1]
    rfl
end Go.AM
namespace Go.AM
open Go Go.Proofs
theorem t122 (n0 base : Nat) {m : M} {pl p1 p C : Nat} (hbb : base ≤ p) (hp1 : p1 ≠ p) {V : Nat → Value} {f : Nat → List Int} {F T0 : Nat → Nat} (hF : ∀ i, F i ≤ 1099511627777) (h1 : VecM m p1 C F) (hp : VecM m p C T0)
    (hl : ∀ j, j < C → ∀ m' : M, (∀ i, i ≠ p → m'[i]? = m[i]?) → xload E.P m' 33 (pt pl j) = some (V j) ∧ Ints m' (V j) (f j)) (hos : ∀ j, ∀ o ∈ f j, ∃ a : Nat, o = a ∧ a < C) (hol : ∀ j, (f j).length < n0 + 1) (hol2 : ∀ j, (f j).length ≤ 1000000) (hC : C ≤ 1000000) (hCn : C < n0 + 1) :
    ∃ m', rt (n0 + 2) base 122 [sl pl C, sl p1 C, sl p C] m = some (.ret (.tuple #[]), m') ∧ VecM m' p C (folL F f C 0 fun _ => 0) ∧ m'.length = m.length ∧ ∀ i, i ≠ p → m'[i]? = m[i]? := by
  rw [rt_imp (f := 122) (rf := rf122) (by kernel_rfl) (by kernel_rfl) (by kernel_rfl) (n0 + 1) base]
  show ∃ m', r122 (rt (n0 + 1)) (n0 + 1) base (sl pl C) (sl p1 C) (sl p C) m = _ ∧ _
  unfold r122
  obtain ⟨m1, e1, V1, l1, o1⟩ := hp.clear hbb
  rw [vcall_fun, e1, len33, k2s, i0]
  obtain ⟨m', z1, z2, z3, z4⟩ := loop122 n0 base (fun v m => some (.pan v, m)) (fun m => (some (.ret (.tuple #[]), m))) hbb hp1 hF h1 hl hos hol hol2 hC (n0 + 1) 0 _ m1 (fun _ => by omega) V1 o1 (Nat.zero_le _) (by omega)
  rw [Nat.sub_zero] at z2
  exact ⟨m', z1, z2, z3.trans l1, z4⟩
/-- Memory for a walk: lists of counts at ps + 1, ps + 2 .. -/
structure SM (m : M) (ps N C : Nat) (Fs : Nat → Nat → Nat) : Prop where
  hs : m[ps]? = some (rowz 1 true ((List.range N).map fun i => sl (ps + 1 + i) C))
  hv : ∀ i, i < N → VecM m (ps + 1 + i) C (Fs i)
theorem SM.get {m : M} {ps N C : Nat} {Fs : Nat → Nat → Nat} (h : SM m ps N C Fs) {i : Nat} (hi : i < N) (K : Value → Res2) : (k1n (mindexAddr E.P 23 (sl ps N) (vi i)) fun a => k1n (xload E.P m 33 a) K) = K (sl (ps + 1 + i) C) := by
  rw [ix23 _ _ _ _ hi, k1s, ld33]
  unfold mcell
  rw [h.hs]
  show k1n (((List.range N).map fun i => (sl (ps + 1 + i) C : Value))[i]?) K = _
  rw [List.getElem?_map, List.getElem?_range hi]
  rfl
def walkF (F0 : Nat → Nat) (f : Nat → List Int) (C : Nat) : Nat → Nat → Nat
  | 0 => F0
  | k + 1 => folL (walkF F0 f C k) f C 0 fun _ => 0
theorem walkF_le {F0 : Nat → Nat} {f : Nat → List Int} {C : Nat} (h : ∀ i, F0 i ≤ 1099511627777) : ∀ k i, walkF F0 f C k i ≤ 1099511627777
  | 0, i => h i
  | k + 1, i => folL_le C 0 _ (fun _ => by omega) i
theorem loop117 (n0 base : Nat) (kx : M → Res2) {m0 : M} {pl ps N C : Nat} (hbb : base ≤ ps) {V : Nat → Value} {f : Nat → List Int} {F0 : Nat → Nat} (hF0 : ∀ i, F0 i ≤ 1099511627777)
    (hl : ∀ j, j < C → ∀ m' : M, (∀ i, (i ≤ ps ∨ ps + N < i) → m'[i]? = m0[i]?) → xload E.P m' 33 (pt pl j) = some (V j) ∧ Ints m' (V j) (f j)) (hos : ∀ j, ∀ o ∈ f j, ∃ a : Nat, o = a ∧ a < C) (hol : ∀ j, (f j).length < n0 + 1) (hol2 : ∀ j, (f j).length ≤ 1000000) (hC : C ≤ 1000000) (hCn : C < n0 + 1) (hN : N ≤ 1000) :
    ∀ (n k : Nat) (Fs : Nat → Nat → Nat) (m : M), SM m ps N C Fs → (∀ i, i ≤ k → Fs i = walkF F0 f C i) → (∀ i, (i ≤ ps ∨ ps + N < i) → m[i]? = m0[i]?) → m.length = m0.length → k + 1 ≤ N → N < n + k →
      ∃ m' Fs', r117_L0 (rt (n0 + 2)) (n0 + 2) base kx n (sl pl C) (sl ps N) (vi ((N - 1 : Nat) : Int)) (vi k) m = kx m' ∧ SM m' ps N C Fs' ∧ (∀ i, i < N → Fs' i = walkF F0 f C i) ∧ (∀ i, (i ≤ ps ∨ ps + N < i) → m'[i]? = m0[i]?) ∧ m'.length = m0.length
  | 0, k, Fs, m, hS, hF, ho, hlen, hk, hn => by omega
  | n + 1, k, Fs, m, hS, hF, ho, hlen, hk, hn => by
    rw [r117_L0_s, lss_nat, k1s]
    by_cases hlt : k < N - 1
    · rw [decide_eq_true hlt, kbt, hS.get (by omega), add1 k (by omega), k1s, hS.get (i := k + 1) (by omega)]
      obtain ⟨m1, z1, z2, z3, z4⟩ := t122 n0 base (m := m) (pl := pl) (p1 := ps + 1 + k) (p := ps + 1 + (k + 1)) (C := C) (by omega) (by omega) (V := V) (f := f) (F := Fs k) (by rw [hF k (Nat.le_refl _)]; exact walkF_le hF0 k) (hS.hv k (by omega)) (hS.hv (k + 1) (by omega)) (fun j hj m' h => hl j hj m' fun i hi => (h i (by omega)).trans (ho i hi)) hos hol hol2 hC hCn
      rw [z1, kcs, k1s]
      have hS1 : SM m1 ps N C (fun i => if i = k + 1 then folL (Fs k) f C 0 (fun _ => 0) else Fs i) := by
        refine ⟨by rw [z4 ps (by omega)]; exact hS.hs, fun i hi => ?_⟩
        by_cases e : i = k + 1
        · subst e
          rw [if_pos rfl]
          exact z2
        · rw [if_neg e]
          exact (z4 _ (by omega)).trans (hS.hv i hi)
      exact loop117 n0 base kx hbb hF0 hl hos hol hol2 hC hCn hN n (k + 1) _ m1 hS1 (fun i hi => by
        by_cases e : i = k + 1
        · subst e
          rw [if_pos rfl, hF k (by omega)]
          rfl
        · rw [if_neg e]
          exact hF i (by omega)) (fun i hi => (z4 i (by omega)).trans (ho i hi)) (z3.trans hlen) (by omega) (by omega)
    · rw [decide_eq_false hlt, kbf]
      exact ⟨m, Fs, rfl, hS, fun i hi => hF i (by omega), ho, hlen⟩
theorem t117 (n0 base : Nat) {m : M} {pl ps N C : Nat} (hbb : base ≤ ps) {V : Nat → Value} {f : Nat → List Int} {Fs : Nat → Nat → Nat} (hS : SM m ps N C Fs) (hF0 : ∀ i, Fs 0 i ≤ 1099511627777)
    (hl : ∀ j, j < C → ∀ m' : M, (∀ i, (i ≤ ps ∨ ps + N < i) → m'[i]? = m[i]?) → xload E.P m' 33 (pt pl j) = some (V j) ∧ Ints m' (V j) (f j)) (hos : ∀ j, ∀ o ∈ f j, ∃ a : Nat, o = a ∧ a < C) (hol : ∀ j, (f j).length < n0 + 1) (hol2 : ∀ j, (f j).length ≤ 1000000) (hC : C ≤ 1000000) (hCn : C < n0 + 1) (hN1 : 1 ≤ N) (hN : N ≤ 1000) (hNn : N < n0 + 2) :
    ∃ m' Fs', rt (n0 + 3) base 117 [sl pl C, sl ps N] m = some (.ret (.tuple #[]), m') ∧ SM m' ps N C Fs' ∧ (∀ i, i < N → Fs' i = walkF (Fs 0) f C i) ∧ (∀ i, (i ≤ ps ∨ ps + N < i) → m'[i]? = m[i]?) ∧ m'.length = m.length := by
  rw [rt_imp (f := 117) (rf := rf117) (by kernel_rfl) (by kernel_rfl) (by kernel_rfl) (n0 + 2) base]
  show ∃ m' Fs', r117 (rt (n0 + 2)) (n0 + 2) base (sl pl C) (sl ps N) m = _ ∧ _
  unfold r117
  rw [k1_fun, vcall_fun, len23, k2s, sub1 N hN1 (by omega), k1s, i0]
  exact loop117 n0 base (fun m => (some (.ret (.tuple #[]), m))) hbb hF0 hl hos hol hol2 hC hCn hN (n0 + 2) 0 Fs m hS (fun i hi => by
    have : i = 0 := by omega
    subst this; rfl) (fun _ _ => rfl) rfl (by omega) (by omega)
theorem loop104 (n0 base w : Nat) (hw : w ≤ 4) (hn0 : 10 ≤ n0) (kp : Value → M → Res2) (kx : Value → M → Res2) {m0 : M} {q ps N : Nat} {rv : Value} (hq : m0[q]? = some (cellR [vi w, rv])) (hqp : q < ps) (hm0 : m0.length = ps) (hbb : base ≤ ps) (hN : N ≤ 1000) :
    ∀ (n i : Nat) (m : M), m.length = ps + 1 + i → (∀ k, k < ps → m[k]? = m0[k]?) → m[ps]? = some (rowz 1 true ((List.range N).map fun j => if j < i then sl (ps + 1 + j) (8 ^ w) else nilS)) → (∀ j, j < i → VecM m (ps + 1 + j) (8 ^ w) fun _ => 0) → i ≤ N → N < n + i →
      ∃ m', r104_L0 (rt (n0 + 1)) (n0 + 1) base kp kx n (pt q 0) (sl ps N) (vi N) (vi i) m = kx (sl ps N) m' ∧ m'.length = ps + 1 + N ∧ (∀ k, k < ps → m'[k]? = m0[k]?) ∧ SM m' ps N (8 ^ w) (fun _ _ => 0)
  | 0, i, m, hl, hk, hs, hv, hi, hn => by omega
  | n + 1, i, m, hl, hk, hs, hv, hi, hn => by
    have h8 : 8 ^ w ≤ 4096 := Nat.le_trans (Nat.pow_le_pow_right (by omega) hw) (by decide)
    rw [r104_L0_s, lss_nat, k1s]
    by_cases hlt : i < N
    · have hq1 : m[q]? = some (cellR [vi w, rv]) := (hk q hqp).trans hq
      have hs1 : (m ++ [rowz 1 true (repCells [.int .i64 0] (8 ^ w))])[ps]? = some (rowz 1 true ((List.range N).map fun j => if j < i then sl (ps + 1 + j) (8 ^ w) else nilS)) := by rw [List.getElem?_append_left (by omega)]; exact hs
      rw [decide_eq_true hlt, kbt, ff76_0, k1s, ld3, show mcell m q (0 + 0) = some (vi w) from box_cell hq1 _ _ rfl, k1s, t94 n0 base w hw (by omega), kcs, mkM33 _ _ (by omega), k2s, ix23 _ _ _ _ hlt, k1s, st33, mwrite_one hbb hs1 rfl (by show i < ((List.range N).map _).length; simpa using hlt) rfl, kss, add1 i (by omega), k1s]
      refine loop104 n0 base w hw hn0 kp kx hq hqp hm0 hbb hN n (i + 1) _ (by simp; omega) (fun k h => ?_) ?_ (fun j hj => ?_) (by omega) (by omega)
      · rw [List.getElem?_set_ne (by omega), List.getElem?_append_left (by omega)]; exact hk k h
      · rw [List.getElem?_set_self (by simp; omega)]
        show some (rowz 1 true (((List.range N).map fun j => if j < i then sl (ps + 1 + j) (8 ^ w) else nilS).set i (sl m.length (8 ^ w)))) = _
        rw [set_range hlt]
        congr 2
        apply List.map_congr_left
        intro j _
        by_cases e : j = i
        · subst e
          rw [if_pos rfl, if_pos (by omega), hl]
        · rw [if_neg e]
          by_cases e2 : j < i
          · rw [if_pos e2, if_pos (by omega)]
          · rw [if_neg e2, if_neg (by omega)]
      · unfold VecM
        rw [List.getElem?_set_ne (by omega)]
        by_cases e : j = i
        · subst e
          rw [← hl]
          simp [repCells_range1]
          rfl
        · rw [List.getElem?_append_left (by omega)]
          exact hv j (by omega)
    · have hiN : i = N := by omega
      subst hiN
      rw [decide_eq_false hlt, kbf]
      refine ⟨m, rfl, hl, hk, ?_, hv⟩
      rw [hs]
      congr 2
      apply List.map_congr_left
      intro j hj
      rw [if_pos (by simpa using hj)]
theorem t104 (n0 base w : Nat) (hw : w ≤ 4) (hn0 : 2000 ≤ n0) {m : M} (hbb : base ≤ m.length) (rv : Value) (hb : (∃ p l, rv = sl p l) ∨ rv = nilS) (h : Nat) (hh : h ≤ 50) :
    ∃ m', rt (n0 + 2) base 104 [.agg #[vi w, rv], vi h] m = some (.ret (sl (m.length + 1) (h + 1)), m') ∧ m'.length = m.length + 2 + (h + 1) ∧ (∀ k, k < m.length → m'[k]? = m[k]?) ∧ SM m' (m.length + 1) (h + 1) (8 ^ w) (fun _ _ => 0) := by
  rw [rt_imp (f := 104) (rf := rf104) (by kernel_rfl) (by kernel_rfl) (by kernel_rfl) (n0 + 1) base]
  show ∃ m', r104 (rt (n0 + 1)) (n0 + 1) base (.agg #[vi w, rv]) (vi h) m = _ ∧ _
  unfold r104
  rw [k1_fun, fVal_fun, vcall_fun, bxa2, k2s, add1 h (by omega), k1s, mk23 _ _ (by omega), k2s, show (m ++ [cellR [vi w, rv]]).length = m.length + 1 by simp, len23, k2s, i0]
  obtain ⟨m', e1, e2, e3, e4⟩ := loop104 n0 base w hw (by omega) (fun v m => some (.pan v, m)) (fun y5_12 m => (some (.ret y5_12, m))) (m0 := m ++ [cellR [vi w, rv]]) (q := m.length) (ps := m.length + 1) (N := h + 1) (rv := rv) (by simp) (by omega) (by simp) (by omega) (by omega) (n0 + 1) 0 (m ++ [cellR [vi w, rv]] ++ [rowz 1 true (repCells [.slice none 0 0] (h + 1))]) (by simp) (fun k hk => by rw [List.getElem?_append_left (by simpa using hk)]) (by simp [repCells_range1]) (fun j hj => by omega) (Nat.zero_le _) (by omega)
  exact ⟨m', e1, by omega, fun k hk => by rw [e3 k (by omega), List.getElem?_append_left hk], e4⟩
end Go.AM
namespace Go.AM
open Go Go.Proofs
def codeN : Nat → List Int → Nat
  | c, [] => c
  | c, d :: ds => codeN (c * 8 + d.toNat) ds
def col (d : Int) : Prop := 0 ≤ d ∧ d < 8
theorem codeN_lt : ∀ (ds : List Int) (c k : Nat), (∀ d ∈ ds, col d) → c < 8 ^ k → codeN c ds < 8 ^ (k + ds.length)
  | [], c, k, _, h => h
  | d :: ds, c, k, hd, h => by
    have h1 : col d := hd d (by simp)
    have := codeN_lt ds (c * 8 + d.toNat) (k + 1) (fun x hx => hd x (by simp [hx])) (by rw [Nat.pow_succ]; unfold col at h1; omega)
    rw [List.length_cons, show k + (ds.length + 1) = k + 1 + ds.length by omega]
    exact this
def HtM (m : M) (p q C : Nat) (H : Nat → Int) : Prop := m[p]? = some (rowz 1 true ((List.range C).map fun j => vi (H j))) ∧ m[q]? = some (cellR [sl p C])
theorem HtM.keeps {m m' : M} {p q C : Nat} {H : Nat → Int} (h : HtM m p q C H) (hk : Keeps m.length m m') : HtM m' p q C H :=
  ⟨(hk.2 p (List.getElem?_eq_some_iff.1 h.1).1).trans h.1, (hk.2 q (List.getElem?_eq_some_iff.1 h.2).1).trans h.2⟩
theorem HtM.get {m : M} {p q C : Nat} {H : Nat → Int} (h : HtM m p q C H) {k : Nat} (hk : k < C) (K : Value → Res2) : (k1n (xload E.P m 33 (pt q 0)) fun a => k1n (mindexAddr E.P 33 a (vi k)) fun b => k1n (xload E.P m 3 b) K) = K (vi (H k)) := by
  rw [ld33, show mcell m q 0 = some (sl p C) from box_cell h.2 _ _ rfl, k1s, ix33 _ _ _ _ hk, k1s, ld3]
  unfold mcell
  rw [h.1]
  show k1n (((List.range C).map fun j => vi (H j))[k]?) K = _
  rw [List.getElem?_map, List.getElem?_range hk]
  rfl
def hstep (H : Nat → Int) (r : List Int) : Nat → Int := if H (codeN 0 r.tail) = 0 then fun j => if j = codeN 0 r.tail then r.getD 0 0 else H j else H
theorem Grow.ints {b : Nat} {m : M} {v : Value} {l : List Int} (h : Grow 1 b m v (l.map vi) l.length) : Ints m v l := by
  rcases h with ⟨h1, h2, _⟩ | ⟨r, h1, _, h2, h3, h4⟩
  · exact .inl ⟨List.length_eq_zero_iff.1 h1, .inl h2⟩
  · refine .inr ⟨r, 0, l.length, _, h2, Nat.le_refl _, h3, rfl, by show 0 + l.length ≤ (l.map vi).length; simp, fun j hj => ?_⟩
    show (l.map vi)[0 + j]? = _
    rw [Nat.zero_add, List.getElem?_map, List.getElem?_eq_getElem hj]
    rfl
end Go.AM
namespace Go.AM
open Go Go.Proofs
def goodN (C : Nat) (x : Int) : Prop := ∃ a : Nat, x = a ∧ a < C
theorem linkL_good {C : Nat} : ∀ (rs : List Rw) (f : Nat → List Int), (∀ r ∈ rs, goodN C r.n ∧ goodN C r.s) → (∀ k, ∀ s ∈ f k, goodN C s) → ∀ k, ∀ s ∈ linkL C rs f k, goodN C s
  | [], f, _, hf => hf
  | r :: rs, f, hr, hf => by
    refine linkL_good rs (linkR C f r) (fun x hx => hr x (by simp [hx])) ?_
    have h1 := hr r (by simp)
    intro k s hs
    unfold linkR updF at hs
    split at hs
    · rcases List.mem_append.1 hs with hs | hs
      · split at hs
        · rcases List.mem_append.1 hs with hs | hs
          · exact hf _ s hs
          · simp at hs; subst hs; exact h1.2
        · exact hf _ s hs
      · simp at hs; subst hs; exact h1.1
    · split at hs
      · rcases List.mem_append.1 hs with hs | hs
        · exact hf _ s hs
        · simp at hs; subst hs; exact h1.2
      · exact hf _ s hs
theorem linkL_len {C : Nat} : ∀ (rs : List Rw) (f : Nat → List Int) (k : Nat), (∀ r ∈ rs, goodN C r.n) → (∀ i, (f i).length ≤ k) → ∀ i, (linkL C rs f i).length ≤ k + rs.length
  | [], f, k, _, hf, i => hf i
  | r :: rs, f, k, hr, hf, i => by
    obtain ⟨a, ea, ha⟩ := hr r (by simp)
    have := linkL_len rs (linkR C f r) (k + 1) (fun x hx => hr x (by simp [hx])) (linkR_len hf (by rw [ea, Int.toNat_natCast]; exact ha)) i
    rw [List.length_cons]
    show (linkL C rs (linkR C f r) i).length ≤ _
    omega
end Go.AM
namespace Go.AM
open Go Go.Proofs
def colT (t : Wg) : Prop := col t.1 ∧ col t.2.1 ∧ col t.2.2.1 ∧ col t.2.2.2
/-- The Norths that are asked, or none. -/
def NV (m : M) (x1 : Value) (no : Nat → Option Int) (w : Nat) : Prop := (x1 = nilS ∧ ∀ x, no x = none) ∨ ∃ nn, Ints m x1 nn ∧ nn.length = w ∧ 1 ≤ w ∧ ∀ x, no x = some (nn.getD x 0)
theorem NV.keeps {m m' : M} {x1 : Value} {no : Nat → Option Int} {w : Nat} (h : NV m x1 no w) (hk : Keeps m.length m m') : NV m' x1 no w := by
  rcases h with h | ⟨nn, h1, h2⟩
  · exact .inl h
  · exact .inr ⟨nn, h1.keeps hk, h2⟩
end Go.AM
namespace Go.AM
open Go Go.Proofs
theorem t30 (n base : Nat) (hn : 100 ≤ n) {m : M} {v : Value} {l : List Wg} (hv : Tiles m v l) (w h : Int) : rt (n + 2) base 30 [v, vi w, vi h] m = some (.ret (vi (if isTk l w h then 0 else 2)), m) := by
  refine rt_pure (f := 30) (rf := rf30) (by kernel_rfl) (by kernel_rfl) (by kernel_rfl) (n + 1) base _ m m _ ?_ (by split <;> rfl)
  show r30 (rt (n + 1)) (n + 1) m.length v (vi w) (vi h) m = _
  unfold r30 isTk
  rw [fVal_fun, k1_fun, t25 n _ hn hv, kcs, not4, k1s]
  cases isS l with
  | false => rfl
  | true =>
    rw [Bool.not_true, kbf, t52, kcs, not4, k1s]
    cases sizeOk w with
    | false => rfl
    | true =>
      rw [Bool.not_true, kbf, t52, kcs, not4, k1s]
      cases sizeOk h <;> rfl
end Go.AM
namespace Go.AM
open Go Go.Proofs
theorem RM.mats {g : Bool} {b : Nat} {m : M} {v : Value} {ls : List (List Int)} (h : RM g b m v ls) : Mats m v ls := by
  rcases h with ⟨rfl, rfl⟩ | ⟨p, ex, us, _, _, rfl, h4, h5, _, h7⟩
  · exact .inl ⟨rfl, .inl rfl⟩
  · refine .inr ⟨p, 0, ls.length, _, rfl, Nat.le_refl _, h4, rfl, by show 0 + ls.length ≤ us.length; omega, fun j hj => ⟨us[j], ?_, (h7 j (by omega) hj).1⟩⟩
    show us[0 + j]? = _
    rw [Nat.zero_add, List.getElem?_eq_getElem (by omega)]
end Go.AM
namespace Go.AM
open Go Go.Proofs
/-- Tiles side by side; the first West is one of P. -/
def Ch (P : Int → Prop) : List Wg → Prop
  | [] => True
  | t :: ts => P t.2.2.2 ∧ Ch (fun x => x = t.2.1) ts
abbrev nsO (ts : List Wg) : List Int := ts.map (·.1)
abbrev ssO (ts : List Wg) : List Int := ts.map (·.2.2.1)
theorem Ch_mono {P Q : Int → Prop} (h : ∀ x, P x → Q x) : ∀ {ts : List Wg}, Ch P ts → Ch Q ts
  | [], _ => trivial
  | _ :: _, hc => ⟨h _ hc.1, hc.2⟩
theorem Ch_snoc : ∀ {P : Int → Prop} {ts : List Wg} {t : Wg}, Ch P (ts ++ [t]) ↔ Ch P ts ∧ (ts = [] → P t.2.2.2) ∧ (∀ u, ts.getLast? = some u → t.2.2.2 = u.2.1)
  | P, [], t => by simp [Ch]
  | P, a :: ts, t => by
    show (P a.2.2.2 ∧ Ch (fun x => x = a.2.1) (ts ++ [t])) ↔ _
    rw [Ch_snoc]
    constructor
    · rintro ⟨h1, h2, h3, h4⟩
      refine ⟨⟨h1, h2⟩, fun h => by simp at h, fun u hu => ?_⟩
      cases ts with
      | nil => simp at hu; subst hu; exact h3 rfl
      | cons b ts => rw [List.getLast?_cons_cons] at hu; exact h4 u hu
    · rintro ⟨⟨h1, h2⟩, _, h4⟩
      refine ⟨h1, h2, fun h => by subst h; exact h4 a (by simp), fun u hu => ?_⟩
      cases ts with
      | nil => simp at hu
      | cons b ts => exact h4 u (by rw [List.getLast?_cons_cons]; exact hu)
theorem codeN_snoc : ∀ (a : List Int) (c : Nat) (d : Int), codeN c (a ++ [d]) = codeN c a * 8 + d.toNat
  | [], c, d => rfl
  | x :: a, c, d => by
    show codeN (c * 8 + x.toNat) (a ++ [d]) = _
    rw [codeN_snoc a]; rfl
theorem codeN_inj : ∀ (a b : List Int), a.length = b.length → (∀ d ∈ a, col d) → (∀ d ∈ b, col d) → ∀ c e : Nat, codeN c a = codeN e b → c = e ∧ a = b
  | [], [], _, _, _, c, e, h => ⟨h, rfl⟩
  | [], _ :: _, hl, _, _, _, _, _ => by simp at hl
  | _ :: _, [], hl, _, _, _, _, _ => by simp at hl
  | x :: a, y :: b, hl, ha, hb, c, e, h => by
    have hx := ha x (by simp)
    have hy := hb y (by simp)
    obtain ⟨h1, h2⟩ := codeN_inj a b (by simpa using hl) (fun d hd => ha d (by simp [hd])) (fun d hd => hb d (by simp [hd])) _ _ h
    unfold col at hx hy
    refine ⟨by omega, ?_⟩
    rw [h2, show x = y by omega]
/-- A row that stands for tiles. -/
def RowTs (l : List Wg) (x : Nat) (r : Rw) (ts : List Wg) : Prop := ts.length = x ∧ (∀ t ∈ ts, t ∈ l) ∧ Ch (fun _ => True) ts ∧ r.n = codeN 0 (nsO ts) ∧ r.s = codeN 0 (ssO ts) ∧ (∀ u, ts.getLast? = some u → r.e = u.2.1)
theorem mem_inR {fits : Nat → Wg → Bool} {x : Nat} {r r' : Rw} : ∀ {ts : List Wg} {i : Nat}, r' ∈ inR fits x r ts i → ∃ (k : Nat) (t : Wg), t ∈ ts ∧ fitR fits x r t = true ∧ r' = r.more x k t
  | t :: ts, i, h => by
    unfold inR at h
    rcases List.mem_append.1 h with h | h
    · split at h
      · rename_i hf
        simp at h
        exact ⟨i, t, by simp, hf, h⟩
      · simp at h
    · obtain ⟨k, u, h1, h2, h3⟩ := mem_inR h
      exact ⟨k, u, by simp [h1], h2, h3⟩
theorem inR_mem {fits : Nat → Wg → Bool} {x : Nat} {r : Rw} {t : Wg} (hf : fitR fits x r t = true) : ∀ {ts : List Wg} {i : Nat}, t ∈ ts → ∃ k : Nat, r.more x k t ∈ inR fits x r ts i
  | u :: ts, i, h => by
    unfold inR
    rcases List.mem_cons.1 h with h | h
    · subst h
      exact ⟨i, List.mem_append_left _ (by rw [if_pos hf]; simp)⟩
    · obtain ⟨k, hk⟩ := inR_mem hf (i := i + 1) h
      exact ⟨k, List.mem_append_right _ hk⟩
theorem mem_stepR {fits : Nat → Wg → Bool} {l : List Wg} {x : Nat} {r' : Rw} : ∀ {rs : List Rw}, r' ∈ stepR fits l x rs ↔ ∃ r ∈ rs, r' ∈ inR fits x r l 0
  | [] => by simp [stepR]
  | r :: rs => by
    unfold stepR
    rw [List.mem_append, mem_stepR]
    simp
theorem more_ts {l : List Wg} (hcol : ∀ t ∈ l, colT t) {x : Nat} (hx : x < 4) {r : Rw} {ts : List Wg} (h : RowTs l x r ts) {t : Wg} (ht : t ∈ l) (hf : fitR allF x r t = true) (k : Nat) : RowTs l (x + 1) (r.more x k t) (ts ++ [t]) := by
  obtain ⟨h1, h2, h3, h4, h5, h6⟩ := h
  have hc := hcol t ht
  have hN : codeN 0 (nsO ts) < 8 ^ x := by
    have := codeN_lt (nsO ts) 0 0 (fun d hd => by
      obtain ⟨u, hu, rfl⟩ := List.mem_map.1 hd
      exact (hcol u (h2 u hu)).1) (by simp)
    simpa [h1] using this
  have hS : codeN 0 (ssO ts) < 8 ^ x := by
    have := codeN_lt (ssO ts) 0 0 (fun d hd => by
      obtain ⟨u, hu, rfl⟩ := List.mem_map.1 hd
      exact (hcol u (h2 u hu)).2.2.1) (by simp)
    simpa [h1] using this
  have h8 : 8 ^ x ≤ 4096 := Nat.le_trans (Nat.pow_le_pow_right (by omega) (show x ≤ 4 by omega)) (by decide)
  have key : ∀ (c : Nat) (d : Int), c < 8 ^ x → col d → wr (wr ((c : Int) * 8) + d) = ((c * 8 + d.toNat : Nat) : Int) := fun c d hcx hd => by
    unfold col at hd
    rw [wr_id (n := (c : Int) * 8) (by omega) (by omega), wr_id (by omega) (by omega)]
    omega
  refine ⟨by simp [h1], fun u hu => ?_, ?_, ?_, ?_, fun u hu => ?_⟩
  · rcases List.mem_append.1 hu with hu | hu
    · exact h2 u hu
    · simp at hu; subst hu; exact ht
  · rw [Ch_snoc]
    refine ⟨h3, fun _ => trivial, fun u hu => ?_⟩
    unfold fitR at hf
    simp only [Bool.and_eq_true, Bool.or_eq_true, decide_eq_true_eq] at hf
    rcases hf.2 with h0 | h0
    · have : ts = [] := List.length_eq_zero_iff.1 (by omega)
      subst this
      simp at hu
    · rw [← h0]; exact h6 u hu
  · show wr (wr (r.n * 8) + t.1) = _
    rw [nsO, List.map_append, List.map_cons, List.map_nil, codeN_snoc, h4]
    exact key _ _ hN hc.1
  · show wr (wr (r.s * 8) + t.2.2.1) = _
    rw [ssO, List.map_append, List.map_cons, List.map_nil, codeN_snoc, h5]
    exact key _ _ hS hc.2.2.1
  · simp at hu
    subst hu
    rfl
theorem rows_ts {l : List Wg} (hcol : ∀ t ∈ l, colT t) : ∀ (k x : Nat) (rs : List Rw), x + k ≤ 4 → (∀ r ∈ rs, ∃ ts, RowTs l x r ts) → (∀ ts, ts.length = x → (∀ t ∈ ts, t ∈ l) → Ch (fun _ => True) ts → ∃ r ∈ rs, RowTs l x r ts) →
    (∀ r ∈ rowsX allF l k x rs, ∃ ts, RowTs l (x + k) r ts) ∧ (∀ ts, ts.length = x + k → (∀ t ∈ ts, t ∈ l) → Ch (fun _ => True) ts → ∃ r ∈ rowsX allF l k x rs, RowTs l (x + k) r ts)
  | 0, x, rs, _, h1, h2 => ⟨h1, h2⟩
  | k + 1, x, rs, hx, h1, h2 => by
    have := rows_ts hcol k (x + 1) (stepR allF l x rs) (by omega) (fun r' hr' => by
      obtain ⟨r, hr, hin⟩ := mem_stepR.1 hr'
      obtain ⟨j, t, ht, hf, rfl⟩ := mem_inR hin
      obtain ⟨ts, hts⟩ := h1 r hr
      exact ⟨_, more_ts hcol (by omega) hts ht hf j⟩) (fun ts hl hin hch => by
      have hne : ts ≠ [] := fun h => by subst h; simp at hl
      obtain ⟨ts', t, rfl⟩ : ∃ ts' t, ts = ts' ++ [t] := ⟨ts.dropLast, ts.getLast hne, (List.dropLast_concat_getLast hne).symm⟩
      obtain ⟨c1, _, c3⟩ := Ch_snoc.1 hch
      obtain ⟨r, hr, hts⟩ := h2 ts' (by simpa using hl) (fun u hu => hin u (by simp [hu])) c1
      have hf : fitR allF x r t = true := by
        unfold fitR allF
        simp only [Bool.true_and, Bool.or_eq_true, decide_eq_true_eq]
        by_cases h0 : x = 0
        · exact .inl h0
        · right
          have hl' : ts'.length = x := by simpa using hl
          have hne' : ts' ≠ [] := fun h => by subst h; simp at hl'; omega
          have hg := List.getLast?_eq_some_getLast hne'
          rw [hts.2.2.2.2.2 _ hg, c3 _ hg]
      obtain ⟨j, hj⟩ := inR_mem hf (i := 0) (hin t (by simp))
      exact ⟨_, mem_stepR.2 ⟨r, hr, hj⟩, more_ts hcol (by omega) hts (hin t (by simp)) hf j⟩)
    rw [show x + (k + 1) = x + 1 + k by omega]
    exact this
theorem band_ts {l : List Wg} (hcol : ∀ t ∈ l, colT t) {w : Nat} (hw : w ≤ 4) : (∀ r ∈ bandL l w, ∃ ts, RowTs l w r ts) ∧ (∀ ts, ts.length = w → (∀ t ∈ ts, t ∈ l) → Ch (fun _ => True) ts → ∃ r ∈ bandL l w, RowTs l w r ts) := by
  have := rows_ts hcol w 0 [zeroR] (by omega) (fun r hr => by
    simp at hr
    subst hr
    exact ⟨[], rfl, by simp, trivial, rfl, rfl, by simp⟩) (fun ts hl _ _ => by
    have : ts = [] := List.length_eq_zero_iff.1 hl
    subst this
    exact ⟨zeroR, by simp, rfl, by simp, trivial, rfl, rfl, by simp⟩)
  rw [Nat.zero_add] at this
  exact this
theorem mem_linkL {C : Nat} : ∀ {rs : List Rw} {f : Nat → List Int} {k : Nat} {s : Int}, s ∈ linkL C rs f k ↔ s ∈ f k ∨ ∃ r ∈ rs, (k = r.n.toNat ∧ s = r.s) ∨ (k = C + r.s.toNat ∧ s = r.n)
  | [], f, k, s => by simp [linkL]
  | r :: rs, f, k, s => by
    show s ∈ linkL C rs (linkR C f r) k ↔ _
    rw [mem_linkL]
    have : s ∈ linkR C f r k ↔ s ∈ f k ∨ (k = r.n.toNat ∧ s = r.s) ∨ (k = C + r.s.toNat ∧ s = r.n) := by
      have e1 : s ∈ (if k = r.n.toNat then f k ++ [r.s] else f k) ↔ s ∈ f k ∨ (k = r.n.toNat ∧ s = r.s) := by
        by_cases h2 : k = r.n.toNat
        · rw [if_pos h2, List.mem_append, List.mem_singleton]
          exact ⟨fun h => h.elim .inl (fun h => .inr ⟨h2, h⟩), fun h => h.elim .inl (fun h => .inr h.2)⟩
        · rw [if_neg h2]
          exact ⟨.inl, fun h => h.elim id (fun h => absurd h.1 h2)⟩
      show s ∈ (if k = C + r.s.toNat then (if k = r.n.toNat then f k ++ [r.s] else f k) ++ [r.n] else if k = r.n.toNat then f k ++ [r.s] else f k) ↔ _
      by_cases h1 : k = C + r.s.toNat
      · rw [if_pos h1, List.mem_append, List.mem_singleton, e1]
        constructor
        · rintro ((h | h) | h)
          · exact .inl h
          · exact .inr (.inl h)
          · exact .inr (.inr ⟨h1, h⟩)
        · rintro (h | h | h)
          · exact .inl (.inl h)
          · exact .inl (.inr h)
          · exact .inr h.2
      · rw [if_neg h1, e1]
        constructor
        · rintro (h | h)
          · exact .inl h
          · exact .inr (.inl h)
        · rintro (h | h | h)
          · exact .inl h
          · exact .inr h
          · exact absurd h.1 h1
    rw [this]
    simp only [List.mem_cons]
    constructor
    · rintro ((h | h) | ⟨q, hq, h⟩)
      · exact .inl h
      · exact .inr ⟨r, .inl rfl, h⟩
      · exact .inr ⟨q, .inr hq, h⟩
    · rintro (h | ⟨q, rfl | hq, h⟩)
      · exact .inl (.inl h)
      · exact .inl (.inr h)
      · exact .inr ⟨q, hq, h⟩
theorem mem_gathF {α : Type} {f : Nat → List α} {x : α} : ∀ {n j : Nat}, x ∈ gathF f n j ↔ ∃ i, j ≤ i ∧ i < j + n ∧ x ∈ f i
  | 0, j => by simp [gathF]; intro i h1 h2; omega
  | n + 1, j => by
    rw [gathF_succ, List.mem_append, mem_gathF]
    constructor
    · rintro (h | ⟨i, h1, h2, h3⟩)
      · exact ⟨j, Nat.le_refl _, by omega, h⟩
      · exact ⟨i, by omega, by omega, h3⟩
    · rintro ⟨i, h1, h2, h3⟩
      by_cases e : i = j
      · subst e; exact .inl h3
      · exact .inr ⟨i, by omega, by omega, h3⟩
end Go.AM
namespace Go.AM
open Go Go.Proofs
theorem isS_facts {l : List Wg} (h : isS l = true) : 1 ≤ l.length ∧ l.length ≤ 16 ∧ ∀ t ∈ l, colT t := by
  unfold isS at h
  simp only [Bool.and_eq_true, decide_eq_true_eq] at h
  refine ⟨h.1, h.2.1, fun t ht => ?_⟩
  obtain ⟨i, hi, rfl⟩ := List.mem_iff_getElem.1 ht
  have := allFrom_iff.1 h.2.2 i (Nat.zero_le _) (by omega)
  rw [okAt_eq hi, Bool.and_eq_true] at this
  have h1 := this.1
  unfold okT at h1
  simp only [Bool.and_eq_true, Bool.not_eq_true'] at h1
  have key : ∀ d, badc d = false → col d := fun d hd => by
    unfold badc at hd
    simp only [Bool.or_eq_false_iff, decide_eq_false_iff_not] at hd
    unfold col; omega
  exact ⟨key _ h1.1, key _ h1.2.1, key _ h1.2.2.1, key _ h1.2.2.2⟩
end Go.AM
namespace Go.AM
open Go Go.Proofs
def sumF (F : Nat → Nat) : Nat → Nat → Nat → Nat
  | 0, _, a => a
  | k + 1, j, a => sumF F k (j + 1) (satS a (F j))
def limR (c : Nat) : Value := if c > 1099511627776 then .tuple #[vi 0, vi 8] else .tuple #[vi c, vi 0]
theorem t68 (n base : Nat) (c : Nat) (m : M) : rt (n + 1) base 68 [vi c] m = some (.ret (limR c), m) := by
  refine rt_pure (f := 68) (rf := rf68) (by kernel_rfl) (by kernel_rfl) (by kernel_rfl) n base _ m m _ ?_ (by unfold limR; split <;> rfl)
  show r68 (rt n) n m.length (vi c) m = _
  unfold r68 limR
  rw [k1_fun, show (.int .i64 1099511627776 : Value) = vi 1099511627776 from rfl, gtr3, k1s]
  by_cases h : c > 1099511627776
  · rw [decide_eq_true (by omega), kbt, if_pos h]; rfl
  · rw [decide_eq_false (by omega), kbf, if_neg h]; rfl
/-- The rows of the band have codes of w colours. -/
theorem band_good {l : List Wg} (hcol : ∀ t ∈ l, colT t) {w : Nat} (hw : w ≤ 4) : ∀ r ∈ bandL l w, goodN (8 ^ w) r.n ∧ goodN (8 ^ w) r.s := fun r hr => by
  obtain ⟨ts, h1, h2, _, h4, h5, _⟩ := (band_ts hcol hw).1 r hr
  have e1 := codeN_lt (nsO ts) 0 0 (fun d hd => by
    obtain ⟨u, hu, rfl⟩ := List.mem_map.1 hd
    exact (hcol u (h2 u hu)).1) (by simp)
  have e2 := codeN_lt (ssO ts) 0 0 (fun d hd => by
    obtain ⟨u, hu, rfl⟩ := List.mem_map.1 hd
    exact (hcol u (h2 u hu)).2.2.1) (by simp)
  rw [Nat.zero_add, List.length_map, h1] at e1 e2
  exact ⟨⟨_, h4, e1⟩, ⟨_, h5, e2⟩⟩
theorem limR_two (c : Nat) : ∃ a b : Int, limR c = .tuple #[vi a, vi b] := by
  unfold limR
  split
  · exact ⟨0, 8, rfl⟩
  · exact ⟨c, 0, rfl⟩
end Go.AM
namespace Go.AM
open Go Go.Proofs
theorem SM.keeps {m m' : M} {ps N C : Nat} {Fs : Nat → Nat → Nat} (h : SM m ps N C Fs) (hk : Keeps m.length m m') : SM m' ps N C Fs :=
  ⟨(hk.2 _ (List.getElem?_eq_some_iff.1 h.hs).1).trans h.hs, fun i hi => (hk.2 _ (List.getElem?_eq_some_iff.1 (h.hv i hi)).1).trans (h.hv i hi)⟩
end Go.AM
namespace Go.AM
open Go Go.Proofs
theorem satS_ne {a b : Nat} : satS a b ≠ 0 ↔ a ≠ 0 ∨ b ≠ 0 := by
  unfold satS
  omega
theorem addAll_ne {n : Nat} (hn : n ≠ 0) : ∀ (os : List Int) (T : Nat → Nat) (j : Nat), addAll n os T j ≠ 0 ↔ T j ≠ 0 ∨ ∃ o ∈ os, o.toNat = j
  | [], T, j => by simp [addAll]
  | o :: os, T, j => by
    show addAll n os (fun j => if j = o.toNat then satS (T o.toNat) n else T j) j ≠ 0 ↔ _
    rw [addAll_ne hn os]
    by_cases e : j = o.toNat
    · rw [if_pos e, satS_ne]
      exact ⟨fun _ => .inr ⟨o, by simp, e.symm⟩, fun _ => .inl (.inr hn)⟩
    · rw [if_neg e]
      constructor
      · rintro (h | ⟨q, hq, h⟩)
        · exact .inl h
        · exact .inr ⟨q, by simp [hq], h⟩
      · rintro (h | ⟨q, hq, h⟩)
        · exact .inl h
        · rcases List.mem_cons.1 hq with rfl | hq
          · exact absurd h.symm e
          · exact .inr ⟨q, hq, h⟩
theorem folL_ne {F : Nat → Nat} {f : Nat → List Int} : ∀ (k j : Nat) (T : Nat → Nat) (i : Nat), folL F f k j T i ≠ 0 ↔ T i ≠ 0 ∨ ∃ c, j ≤ c ∧ c < j + k ∧ F c ≠ 0 ∧ ∃ o ∈ f c, o.toNat = i
  | 0, j, T, i => by
    constructor
    · exact fun h => .inl h
    · rintro (h | ⟨c, h1, h2, _⟩)
      · exact h
      · omega
  | k + 1, j, T, i => by
    show folL F f k (j + 1) (if F j = 0 then T else addAll (F j) (f j) T) i ≠ 0 ↔ _
    rw [folL_ne k (j + 1)]
    have hT : (if F j = 0 then T else addAll (F j) (f j) T) i ≠ 0 ↔ T i ≠ 0 ∨ (F j ≠ 0 ∧ ∃ o ∈ f j, o.toNat = i) := by
      by_cases e : F j = 0
      · rw [if_pos e]
        exact ⟨fun h => .inl h, fun h => h.elim id fun h => absurd e h.1⟩
      · rw [if_neg e, addAll_ne e]
        exact ⟨fun h => h.elim .inl fun h => .inr ⟨e, h⟩, fun h => h.elim .inl fun h => .inr h.2⟩
    rw [hT]
    constructor
    · rintro ((h | h) | ⟨c, h1, h2, h3⟩)
      · exact .inl h
      · exact .inr ⟨j, Nat.le_refl _, by omega, h⟩
      · exact .inr ⟨c, by omega, by omega, h3⟩
    · rintro (h | ⟨c, h1, h2, h3⟩)
      · exact .inl (.inl h)
      · by_cases e : c = j
        · subst e; exact .inl (.inr h3)
        · exact .inr ⟨c, by omega, by omega, h3⟩
end Go.AM
namespace Go.AM
open Go Go.Proofs
theorem gathF_pair {α : Type} {R : α → α → Prop} {f : Nat → List α} : ∀ (n j : Nat), (∀ i, j ≤ i → i < j + n → (f i).Pairwise R) → (∀ i k x y, j ≤ i → i < k → k < j + n → x ∈ f i → y ∈ f k → R x y) → (gathF f n j).Pairwise R
  | 0, j, _, _ => List.Pairwise.nil
  | n + 1, j, h1, h2 => by
    rw [gathF_succ, List.pairwise_append]
    refine ⟨h1 j (Nat.le_refl _) (by omega), gathF_pair n (j + 1) (fun i a b => h1 i (by omega) (by omega)) (fun i k x y a b c => h2 i k x y (by omega) b (by omega)), fun x hx y hy => ?_⟩
    obtain ⟨k, h3, h4, h5⟩ := mem_gathF.1 hy
    exact h2 j k x y (Nat.le_refl _) (by omega) (by omega) hx h5
end Go.AM
namespace Go.AM
open Go Go.Proofs
def rwGo (l : List Wg) : Nat → Rw → List Nat → Rw
  | _, r, [] => r
  | x, r, i :: p => rwGo l (x + 1) (r.more x i (tl l i)) p
/-- The row of a list of tiles, given by their places in the set. -/
def rwOf (l : List Wg) (p : List Nat) : Rw := rwGo l 0 zeroR p
theorem rwGo_snoc (l : List Wg) : ∀ (p : List Nat) (x : Nat) (r : Rw) (i : Nat), rwGo l x r (p ++ [i]) = (rwGo l x r p).more (x + p.length) i (tl l i)
  | [], x, r, i => rfl
  | j :: p, x, r, i => by
    show rwGo l (x + 1) (r.more x j (tl l j)) (p ++ [i]) = (rwGo l (x + 1) (r.more x j (tl l j)) p).more _ i (tl l i)
    rw [rwGo_snoc l p, List.length_cons, show x + 1 + p.length = x + (p.length + 1) by omega]
theorem rwOf_snoc (l : List Wg) (p : List Nat) (i : Nat) : rwOf l (p ++ [i]) = (rwOf l p).more p.length i (tl l i) := by
  unfold rwOf
  rw [rwGo_snoc, Nat.zero_add]
def nextI (l : List Wg) (x : Nat) (p : List Nat) : List (List Nat) := gathF (fun i => if fitR allF x (rwOf l p) (tl l i) then [p ++ [i]] else []) l.length 0
def idxX (l : List Wg) : Nat → List (List Nat)
  | 0 => [[]]
  | x + 1 => (idxX l x).flatMap (nextI l x)
theorem inR_idx (l : List Wg) {x : Nat} {p : List Nat} (hp : p.length = x) : ∀ (n i : Nat), n + i = l.length → inR allF x (rwOf l p) (l.drop i) i = (gathF (fun i => if fitR allF x (rwOf l p) (tl l i) then [p ++ [i]] else []) n i).map (rwOf l)
  | 0, i, h => by
    rw [List.drop_eq_nil_of_le (by omega)]
    rfl
  | n + 1, i, h => by
    have hi : i < l.length := by omega
    have ht : tl l i = l[i] := by
      unfold tl
      rw [Int.toNat_natCast, List.getD_eq_getElem?_getD, List.getElem?_eq_getElem hi]
      rfl
    rw [List.drop_eq_getElem_cons hi, gathF_succ, List.map_append, ← inR_idx l hp n (i + 1) (by omega)]
    show (if fitR allF x (rwOf l p) l[i] then [(rwOf l p).more x i l[i]] else []) ++ _ = _
    rw [ht]
    congr 1
    split
    · rw [List.map_cons, List.map_nil, rwOf_snoc, hp, ht]
    · rfl
theorem stepR_idx (l : List Wg) {x : Nat} : ∀ (ps : List (List Nat)), (∀ p ∈ ps, p.length = x) → stepR allF l x (ps.map (rwOf l)) = (ps.flatMap (nextI l x)).map (rwOf l)
  | [], _ => rfl
  | p :: ps, h => by
    rw [List.map_cons, List.flatMap_cons, List.map_append, ← stepR_idx l ps fun q hq => h q (by simp [hq])]
    show inR allF x (rwOf l p) l 0 ++ _ = _
    have := inR_idx l (h p (by simp)) l.length 0 rfl
    rw [List.drop_zero] at this
    rw [this]
    rfl
theorem mem_nextI {l : List Wg} {x : Nat} {p q : List Nat} : q ∈ nextI l x p ↔ ∃ i, i < l.length ∧ fitR allF x (rwOf l p) (tl l i) = true ∧ q = p ++ [i] := by
  unfold nextI
  rw [mem_gathF]
  constructor
  · rintro ⟨i, _, h2, h3⟩
    split at h3
    · rename_i hf
      simp at h3
      exact ⟨i, by omega, hf, h3⟩
    · simp at h3
  · rintro ⟨i, h1, h2, rfl⟩
    refine ⟨i, Nat.zero_le _, by omega, ?_⟩
    rw [if_pos h2]
    simp
theorem idxX_len {l : List Wg} : ∀ {x : Nat} {p : List Nat}, p ∈ idxX l x → p.length = x
  | 0, p, h => by
    unfold idxX at h
    simp at h
    subst h
    rfl
  | x + 1, p, h => by
    unfold idxX at h
    rw [List.mem_flatMap] at h
    obtain ⟨q, hq, h⟩ := h
    obtain ⟨i, _, _, rfl⟩ := mem_nextI.1 h
    rw [List.length_append, idxX_len hq]
    rfl
theorem rowsX_idx (l : List Wg) : ∀ (k x : Nat), rowsX allF l k x ((idxX l x).map (rwOf l)) = (idxX l (x + k)).map (rwOf l)
  | 0, x => rfl
  | k + 1, x => by
    show rowsX allF l k (x + 1) (stepR allF l x ((idxX l x).map (rwOf l))) = _
    rw [stepR_idx l _ (fun p hp => idxX_len hp), show x + (k + 1) = x + 1 + k by omega, ← rowsX_idx l k (x + 1)]
    rfl
theorem bandL_idx (l : List Wg) (w : Nat) : bandL l w = (idxX l w).map (rwOf l) := by
  have := rowsX_idx l w 0
  rw [Nat.zero_add] at this
  exact this
abbrev tsI (l : List Wg) (p : List Nat) : List Wg := p.map fun (i : Nat) => tl l (i : Int)
theorem tl_mem {l : List Wg} {i : Nat} (h : i < l.length) : tl l (i : Int) ∈ l := by
  unfold tl
  rw [Int.toNat_natCast, List.getD_eq_getElem?_getD, List.getElem?_eq_getElem h]
  exact List.getElem_mem h
theorem rwOf_ts {l : List Wg} (hcol : ∀ t ∈ l, colT t) : ∀ {x : Nat} {p : List Nat}, x ≤ 4 → p ∈ idxX l x → RowTs l x (rwOf l p) (tsI l p)
  | 0, p, _, h => by
    unfold idxX at h
    simp at h
    subst h
    exact ⟨rfl, by simp, trivial, rfl, rfl, by simp⟩
  | x + 1, p, hx, h => by
    unfold idxX at h
    rw [List.mem_flatMap] at h
    obtain ⟨q, hq, h⟩ := h
    obtain ⟨i, hi, hf, rfl⟩ := mem_nextI.1 h
    rw [rwOf_snoc, idxX_len hq, show tsI l (q ++ [i]) = tsI l q ++ [tl l i] by simp]
    exact more_ts hcol (by omega) (rwOf_ts hcol (by omega) hq) (tl_mem hi) hf i
theorem mem_idxX {l : List Wg} (hcol : ∀ t ∈ l, colT t) : ∀ {x : Nat} {p : List Nat}, x ≤ 4 → (p ∈ idxX l x ↔ p.length = x ∧ (∀ i ∈ p, i < l.length) ∧ Ch (fun _ => True) (tsI l p))
  | 0, p, _ => by
    unfold idxX
    constructor
    · intro h
      simp at h
      subst h
      exact ⟨rfl, by simp, trivial⟩
    · rintro ⟨h, _⟩
      rw [List.length_eq_zero_iff.1 h]
      simp
  | x + 1, p, hx => by
    show p ∈ (idxX l x).flatMap (nextI l x) ↔ _
    rw [List.mem_flatMap]
    constructor
    · rintro ⟨q, hq, h⟩
      obtain ⟨i, hi, hf, rfl⟩ := mem_nextI.1 h
      obtain ⟨h1, h2, h3⟩ := (mem_idxX hcol (by omega)).1 hq
      have := more_ts hcol (by omega) (rwOf_ts hcol (by omega) hq) (tl_mem hi) hf i
      refine ⟨by simp [h1], fun j hj => ?_, by rw [show tsI l (q ++ [i]) = tsI l q ++ [tl l i] by simp]; exact this.2.2.1⟩
      rcases List.mem_append.1 hj with hj | hj
      · exact h2 j hj
      · simp at hj; omega
    · rintro ⟨h1, h2, h3⟩
      have hne : p ≠ [] := fun h => by subst h; simp at h1
      obtain ⟨q, i, rfl⟩ : ∃ q i, p = q ++ [i] := ⟨p.dropLast, p.getLast hne, (List.dropLast_concat_getLast hne).symm⟩
      rw [show tsI l (q ++ [i]) = tsI l q ++ [tl l i] by simp] at h3
      obtain ⟨c1, _, c3⟩ := Ch_snoc.1 h3
      have hql : q.length = x := by simpa using h1
      have hq : q ∈ idxX l x := (mem_idxX hcol (by omega)).2 ⟨hql, fun j hj => h2 j (by simp [hj]), c1⟩
      refine ⟨q, hq, mem_nextI.2 ⟨i, h2 i (by simp), ?_, rfl⟩⟩
      unfold fitR allF
      simp only [Bool.true_and, Bool.or_eq_true, decide_eq_true_eq]
      by_cases h0 : x = 0
      · exact .inl h0
      · right
        have hne' : tsI l q ≠ [] := fun h => by
          have h9 : q = [] := by simpa using h
          subst h9
          simp at hql
          omega
        have hg := List.getLast?_eq_some_getLast hne'
        rw [(rwOf_ts hcol (by omega) hq).2.2.2.2.2 _ hg, c3 _ hg]
/-- One list before another one of the same length. -/
def lx : List Nat → List Nat → Prop
  | a :: p, b :: q => a < b ∨ (a = b ∧ lx p q)
  | _, _ => False
theorem lx_irrefl : ∀ (p : List Nat), ¬ lx p p
  | [], h => h
  | a :: p, h => by
    rcases h with h | ⟨_, h⟩
    · omega
    · exact lx_irrefl p h
theorem lx_snoc : ∀ {p q : List Nat} {i j : Nat}, p.length = q.length → (lx (p ++ [i]) (q ++ [j]) ↔ lx p q ∨ (p = q ∧ i < j))
  | [], [], i, j, _ => by simp [lx]
  | a :: p, b :: q, i, j, h => by
    show a < b ∨ (a = b ∧ lx (p ++ [i]) (q ++ [j])) ↔ (a < b ∨ (a = b ∧ lx p q)) ∨ (a :: p = b :: q ∧ i < j)
    rw [lx_snoc (by simpa using h), List.cons.injEq]
    constructor
    · rintro (h | ⟨h, h2 | ⟨h2, h3⟩⟩)
      · exact .inl (.inl h)
      · exact .inl (.inr ⟨h, h2⟩)
      · exact .inr ⟨⟨h, h2⟩, h3⟩
    · rintro ((h | ⟨h, h2⟩) | ⟨⟨h, h2⟩, h3⟩)
      · exact .inl h
      · exact .inr ⟨h, .inl h2⟩
      · exact .inr ⟨h, .inr ⟨h2, h3⟩⟩
  | [], _ :: _, _, _, h => by simp at h
  | _ :: _, [], _, _, h => by simp at h
theorem flatMap_pair {α β : Type} {R : β → β → Prop} {S : α → α → Prop} {f : α → List β} : ∀ {xs : List α}, xs.Pairwise S → (∀ a ∈ xs, (f a).Pairwise R) → (∀ a b x y, a ∈ xs → b ∈ xs → S a b → x ∈ f a → y ∈ f b → R x y) → (xs.flatMap f).Pairwise R
  | [], _, _, _ => by simp
  | a :: xs, h, h1, h2 => by
    rw [List.pairwise_cons] at h
    rw [List.flatMap_cons, List.pairwise_append]
    refine ⟨h1 a (by simp), flatMap_pair h.2 (fun b hb => h1 b (by simp [hb])) (fun b c x y hb hc => h2 b c x y (by simp [hb]) (by simp [hc])), fun x hx y hy => ?_⟩
    obtain ⟨b, hb, hy⟩ := List.mem_flatMap.1 hy
    exact h2 a b x y (by simp) (by simp [hb]) (h.1 b hb) hx hy
theorem idxX_sorted (l : List Wg) : ∀ (x : Nat), (idxX l x).Pairwise lx
  | 0 => by simp [idxX]
  | x + 1 => by
    show ((idxX l x).flatMap (nextI l x)).Pairwise lx
    refine flatMap_pair (idxX_sorted l x) (fun p hp => ?_) fun p q u v hp hq h hu hv => ?_
    · unfold nextI
      refine gathF_pair _ _ (fun i _ _ => by split <;> simp) fun i k u v _ h _ hu hv => ?_
      split at hu
      · split at hv
        · simp at hu hv
          subst hu; subst hv
          exact (lx_snoc rfl).2 (.inr ⟨rfl, h⟩)
        · simp at hv
      · simp at hu
    · obtain ⟨i, _, _, rfl⟩ := mem_nextI.1 hu
      obtain ⟨j, _, _, rfl⟩ := mem_nextI.1 hv
      exact (lx_snoc (by rw [idxX_len hp, idxX_len hq])).2 (.inl h)
theorem idxX_nodup (l : List Wg) (x : Nat) : (idxX l x).Nodup := (idxX_sorted l x).imp fun h e => by subst e; exact lx_irrefl _ h
end Go.AM
namespace Go.AM
open Go Go.Proofs
def sumN (g : Nat → Nat) : Nat → Nat → Nat
  | 0, _ => 0
  | k + 1, j => g j + sumN g k (j + 1)
theorem sumN_congr {g g' : Nat → Nat} : ∀ (k j : Nat), (∀ i, j ≤ i → i < j + k → g i = g' i) → sumN g k j = sumN g' k j
  | 0, _, _ => rfl
  | k + 1, j, h => by
    show g j + sumN g k (j + 1) = g' j + sumN g' k (j + 1)
    rw [h j (Nat.le_refl _) (by omega), sumN_congr k (j + 1) fun i h1 h2 => h i (by omega) (by omega)]
theorem sumN_add (g g' : Nat → Nat) : ∀ (k j : Nat), sumN (fun i => g i + g' i) k j = sumN g k j + sumN g' k j
  | 0, _ => rfl
  | k + 1, j => by
    show (g j + g' j) + sumN _ k (j + 1) = (g j + sumN g k (j + 1)) + (g' j + sumN g' k (j + 1))
    rw [sumN_add g g' k (j + 1)]
    omega
theorem sumN_zero : ∀ (k j : Nat), sumN (fun _ => 0) k j = 0
  | 0, _ => rfl
  | k + 1, j => by
    show 0 + sumN _ k (j + 1) = 0
    rw [sumN_zero k (j + 1)]
theorem sumN_one (x s : Nat) : ∀ (k j : Nat), sumN (fun i => if s = i then x else 0) k j = if j ≤ s ∧ s < j + k then x else 0
  | 0, j => by
    rw [if_neg (by omega)]
    rfl
  | k + 1, j => by
    show (if s = j then x else 0) + sumN _ k (j + 1) = _
    rw [sumN_one x s k (j + 1)]
    by_cases e : s = j
    · rw [if_pos e, if_neg (by omega), if_pos (by omega)]
      omega
    · rw [if_neg e]
      by_cases e2 : j + 1 ≤ s ∧ s < j + 1 + k
      · rw [if_pos e2, if_pos (by omega)]
        omega
      · rw [if_neg e2, if_neg (by omega)]
abbrev MX : Nat := 1099511627777
def cntI (os : List Int) (j : Nat) : Nat := os.countP fun o => decide (o.toNat = j)
theorem cntI_cons (o : Int) (os : List Int) (j : Nat) : cntI (o :: os) j = (if o.toNat = j then 1 else 0) + cntI os j := by
  unfold cntI
  rw [List.countP_cons]
  by_cases e : o.toNat = j
  · simp [e]; omega
  · simp [e]
theorem addAll_sum (n : Nat) : ∀ (os : List Int) (T : Nat → Nat) (j : Nat), T j ≤ MX → addAll n os T j = min (T j + n * cntI os j) MX
  | [], T, j, h => by
    show T j = min (T j + n * 0) MX
    omega
  | o :: os, T, j, h => by
    show addAll n os (fun j => if j = o.toNat then satS (T o.toNat) n else T j) j = _
    have hs := satS_le (T o.toNat) n
    rw [addAll_sum n os _ j (by split; exact hs; exact h), cntI_cons, Nat.mul_add]
    generalize n * cntI os j = q
    by_cases e : j = o.toNat
    · subst e
      rw [if_pos rfl, if_pos rfl]
      unfold satS
      have hM : MX = 1099511627777 := rfl
      omega
    · rw [if_neg e, if_neg (Ne.symm e)]
      omega
theorem folL_sum {F : Nat → Nat} {f : Nat → List Int} : ∀ (k j : Nat) (T : Nat → Nat) (i : Nat), (∀ i, T i ≤ MX) → folL F f k j T i = min (T i + sumN (fun c => F c * cntI (f c) i) k j) MX
  | 0, j, T, i, h => by
    have := h i
    show T i = min (T i + 0) MX
    omega
  | k + 1, j, T, i, h => by
    show folL F f k (j + 1) (if F j = 0 then T else addAll (F j) (f j) T) i = min (T i + (F j * cntI (f j) i + sumN _ k (j + 1))) MX
    by_cases e : F j = 0
    · rw [if_pos e, folL_sum k (j + 1) T i h, e, Nat.zero_mul, Nat.zero_add]
    · rw [if_neg e, folL_sum k (j + 1) _ i (addAll_le _ _ h), addAll_sum _ _ _ _ (h i)]
      generalize F j * cntI (f j) i = q
      omega
/-- Sums of numbers that stop at the limit stop there as well. -/
theorem sumN_cut {a b m : Nat → Nat} : ∀ (k j : Nat), (∀ i, j ≤ i → i < j + k → a i = min (b i) MX) → min (sumN (fun c => a c * m c) k j) MX = min (sumN (fun c => b c * m c) k j) MX
  | 0, _, _ => rfl
  | k + 1, j, h => by
    show min (a j * m j + sumN _ k (j + 1)) MX = min (b j * m j + sumN _ k (j + 1)) MX
    have ih := sumN_cut (m := m) k (j + 1) fun i h1 h2 => h i (by omega) (by omega)
    have h0 := h j (Nat.le_refl _) (by omega)
    have : a j * m j = b j * m j ∨ (MX ≤ a j * m j ∧ MX ≤ b j * m j) := by
      by_cases e : b j ≤ MX
      · left; rw [h0, Nat.min_eq_left e]
      · by_cases e0 : m j = 0
        · left; rw [e0]; rfl
        · right
          have h1 : a j * 1 ≤ a j * m j := Nat.mul_le_mul_left _ (by omega)
          have h2 : b j * 1 ≤ b j * m j := Nat.mul_le_mul_left _ (by omega)
          omega
    omega
/-- How many links there are from a place to another one. -/
theorem linkL_cnt {C : Nat} (i : Nat) {c : Nat} : ∀ (rs : List Rw) (f : Nat → List Int), (∀ r ∈ rs, goodN C r.n ∧ goodN C r.s) → cntI (linkL C rs f (C + c)) i = cntI (f (C + c)) i + rs.countP fun r => decide (r.s.toNat = c ∧ r.n.toNat = i)
  | [], f, _ => by simp [linkL]
  | r :: rs, f, h => by
    show cntI (linkL C rs (linkR C f r) (C + c)) i = _
    rw [linkL_cnt i rs (linkR C f r) fun x hx => h x (by simp [hx]), List.countP_cons]
    obtain ⟨⟨a, ea, ha⟩, _⟩ := h r (by simp)
    have hn : r.n.toNat ≠ C + c := by rw [ea, Int.toNat_natCast]; omega
    have hx : linkR C f r (C + c) = if r.s.toNat = c then f (C + c) ++ [r.n] else f (C + c) := by
      unfold linkR updF
      by_cases e : r.s.toNat = c
      · simp only [e, if_true]
        rw [if_neg (Ne.symm hn)]
      · rw [if_neg (by omega), if_neg (Ne.symm hn), if_neg e]
    rw [hx]
    by_cases e : r.s.toNat = c
    · rw [if_pos e]
      have : cntI (f (C + c) ++ [r.n]) i = cntI (f (C + c)) i + if r.n.toNat = i then 1 else 0 := by
        unfold cntI
        rw [List.countP_append]
        congr 1
        by_cases e2 : r.n.toNat = i <;> simp [e2]
      rw [this]
      by_cases e2 : r.n.toNat = i
      · simp [e, e2]; omega
      · simp [e2]
    · rw [if_neg e]
      simp [e]
theorem sumF_sum (F : Nat → Nat) : ∀ (k j a : Nat), a ≤ MX → sumF F k j a = min (a + sumN F k j) MX
  | 0, j, a, h => by
    show a = min (a + 0) MX
    omega
  | k + 1, j, a, h => by
    show sumF F k (j + 1) (satS a (F j)) = min (a + (F j + sumN F k (j + 1))) MX
    rw [sumF_sum F k (j + 1) _ (satS_le _ _)]
    unfold satS
    have hM : MX = 1099511627777 := rfl
    omega
end Go.AM
namespace Go.AM
open Go Go.Proofs
theorem Ch_iff {l : List Wg} : ∀ {P : Int → Prop} {p : List Nat}, Ch P (tsI l p) ↔ (p = [] ∨ P (tl l (p.getD 0 0)).2.2.2) ∧ ∀ x, x + 1 < p.length → (tl l (p.getD x 0)).2.1 = (tl l (p.getD (x + 1) 0)).2.2.2
  | P, [] => by simp [Ch]
  | P, i :: p => by
    show (P (tl l i).2.2.2 ∧ Ch (fun x => x = (tl l i).2.1) (tsI l p)) ↔ _
    rw [Ch_iff]
    constructor
    · rintro ⟨h1, h2, h3⟩
      refine ⟨.inr h1, fun x hx => ?_⟩
      cases x with
      | zero =>
        rcases h2 with h2 | h2
        · subst h2; simp at hx
        · exact h2.symm
      | succ x => exact h3 x (by simp at hx; omega)
    · rintro ⟨h1, h2⟩
      refine ⟨h1.resolve_left (by simp), ?_, fun x hx => h2 (x + 1) (by simp; omega)⟩
      by_cases e : p = []
      · exact .inl e
      · have : 0 < p.length := List.length_pos_iff.2 e
        exact .inr (h2 0 (by simp; omega)).symm
theorem getD_nat {α : Type} {l : List α} {i : Nat} (h : i < l.length) (d : α) : l.getD i d = l[i] := by
  rw [List.getD_eq_getElem?_getD, List.getElem?_eq_getElem h]
  rfl
theorem map_pair {α β : Type} {R : β → β → Prop} {f : α → β} {xs : List α} (h : xs.Pairwise fun a b => R (f a) (f b)) : (xs.map f).Pairwise R := List.pairwise_map.2 h
theorem nodup_sub {α : Type} [BEq α] [LawfulBEq α] : ∀ {l m : List α}, l.Nodup → (∀ x ∈ l, x ∈ m) → l.length ≤ m.length
  | [], _, _, _ => by simp
  | a :: l, m, h, hs => by
    have ha := hs a (by simp)
    have := nodup_sub (l := l) (m := m.erase a) (List.nodup_cons.1 h).2 fun x hx => by
      have hne : x ≠ a := fun e => by subst e; exact (List.nodup_cons.1 h).1 hx
      exact (List.mem_erase_of_ne hne).2 (hs x (by simp [hx]))
    have hp : 0 < m.length := List.length_pos_of_mem ha
    rw [List.length_erase_of_mem ha] at this
    simp only [List.length_cons]
    omega
theorem inj_le {α β : Type} [BEq β] [LawfulBEq β] {A : List α} {B : List β} (f : α → β) (hA : A.Nodup) (hf : ∀ a ∈ A, f a ∈ B) (hi : ∀ a ∈ A, ∀ b ∈ A, f a = f b → a = b) : A.length ≤ B.length := by
  have hn : (A.map f).Nodup := by
    refine map_pair (List.Pairwise.imp_of_mem (fun {a b} ha hb h e => h (hi a ha b hb e)) hA)
  have := nodup_sub hn fun x hx => by
    obtain ⟨a, ha, rfl⟩ := List.mem_map.1 hx
    exact hf a ha
  simpa using this
end Go.AM
namespace Go.AM
open Go Go.Proofs
theorem mem_bandL {l : List Wg} {w : Nat} {r : Rw} : r ∈ bandL l w ↔ ∃ p ∈ idxX l w, rwOf l p = r := by
  rw [bandL_idx, List.mem_map]
end Go.AM
namespace Go.AM
open Go Go.Proofs
/-- Where a colour stands in a list. -/
def idxC : List Int → Int → Nat → Int
  | [], _, _ => -1
  | a :: l, c, i => if a = c then i else idxC l c (i + 1)
theorem idxC_mem : ∀ {l : List Int} {c : Int} {i : Nat}, c ∈ l → ∃ k : Nat, idxC l c i = ((i + k : Nat) : Int) ∧ k < l.length ∧ l.getD k 0 = c
  | [], c, i, h => by simp at h
  | a :: l, c, i, h => by
    show ∃ k : Nat, (if a = c then (i : Int) else idxC l c (i + 1)) = _ ∧ _
    by_cases e : a = c
    · exact ⟨0, by simp [e], by simp, e⟩
    · have hm : c ∈ l := by
        rcases List.mem_cons.1 h with h | h
        · exact absurd h.symm e
        · exact h
      obtain ⟨k, h1, h2, h3⟩ := idxC_mem (i := i + 1) hm
      exact ⟨k + 1, by rw [if_neg e, h1]; omega, by simp; omega, h3⟩
def digS (ls : List Int) (t : Wg) : Nat := (idxC ls t.2.2.1 0).toNat
end Go.AM
namespace Go.AM
open Go Go.Proofs
theorem tk_facts {l : List Wg} {w h : Int} (ht : isTk l w h = true) : isS l = true ∧ ∃ a c : Nat, w = a ∧ h = c ∧ 1 ≤ a ∧ a ≤ 4 ∧ 1 ≤ c ∧ c ≤ 4 := by
  unfold isTk sizeOk at ht
  simp only [Bool.and_eq_true, decide_eq_true_eq] at ht
  exact ⟨ht.1, w.toNat, h.toNat, by omega, by omega, by omega, by omega, by omega, by omega⟩
end Go.AM
namespace Go.AM
open Go Go.Proofs
theorem r66_L0_s (call : CallF) (fuel base : Nat) (kx0 : Value → M → Res2) (n : Nat) (x0 x1 x5 x6 : Value) (m : M) : r66_L0 call fuel base kx0 (n + 1) x0 x1 x5 x6 m =
    (k1n (mbin E .lss 3 x6 x1) fun v9_1 => (kb v9_1 (k1n (mbin E .mul 3 x5 x0) fun v14_2 => (k1n (mbin E .add 3 x6 (.int .i64 1)) fun v11_3 => (r66_L0 call fuel base kx0 n x0 x1 v14_2 v11_3 m))) (kx0 x5 m))) := by
  unfold r66_L0
  rw [k1_fun]
theorem r67_L0_s (call : CallF) (fuel base : Nat) (kx0 : Value → M → Res2) (n : Nat) (x0 x3 x4 : Value) (m : M) : r67_L0 call fuel base kx0 (n + 1) x0 x3 x4 m =
    (k1n (mbin E .leq 3 x4 (.int .i64 7)) fun v8_1 => (kb v8_1 (r67_L2 call fuel base (fun y0_15 y3_16 y4_17 y5_18 m => (kb y5_18 (k2 (xbuildSlice E.P m 33 1 [(0, y4_17)]) fun v39_19 m => (k2 (vcalln E.P base m .append [33, 33] [y3_16, v39_19]) fun v40_20 m => (k1n (mbin E .add 3 y4_17 (.int .i64 1)) fun v10_21 => (r67_L0 call fuel base kx0 n y0_15 v40_20 v10_21 m)))) (k1n (mbin E .add 3 y4_17 (.int .i64 1)) fun v10_22 => (r67_L0 call fuel base kx0 n y0_15 y3_16 v10_22 m)))) fuel x0 x3 x4 (.bool false) (.int .i64 0) m) (kx0 x3 m))) := by
  unfold r67_L0
  rw [k1_fun, vcall_fun]
theorem r67_L2_s (call : CallF) (fuel base : Nat) (kx2 : Value → Value → Value → Value → M → Res2) (n : Nat) (x0 x3 x4 x5 x6 : Value) (m : M) : r67_L2 call fuel base kx2 (n + 1) x0 x3 x4 x5 x6 m =
    (k2 (vcalln E.P base m .len [22] [x0]) fun v13_2 m => (k1n (mbin E .lss 3 x6 v13_2) fun v14_3 => (kb v14_3 (kb x5 (k1n (mbin E .add 3 x6 (.int .i64 1)) fun v16_4 => (r67_L2 call fuel base kx2 n x0 x3 x4 (.bool true) v16_4 m)) (k1n (mindexAddr E.P 22 x0 x6) fun v21_5 => (k1n (mfieldAddr E.P 45 v21_5 0) fun v22_6 => (k1n (xload E.P m 3 v22_6) fun v23_7 => (k1n (mbin E .eql 3 v23_7 x4) fun v25_8 => (kb v25_8 (k1n (mbin E .add 3 x6 (.int .i64 1)) fun v16_9 => (r67_L2 call fuel base kx2 n x0 x3 x4 (.bool true) v16_9 m)) (k1n (mindexAddr E.P 22 x0 x6) fun v30_10 => (k1n (mfieldAddr E.P 45 v30_10 2) fun v31_11 => (k1n (xload E.P m 3 v31_11) fun v32_12 => (k1n (mbin E .eql 3 v32_12 x4) fun v34_13 => (k1n (mbin E .add 3 x6 (.int .i64 1)) fun v16_14 => (r67_L2 call fuel base kx2 n x0 x3 x4 v34_13 v16_14 m)))))))))))) (kx2 x0 x3 x4 x5 m)))) := by
  unfold r67_L2
  rw [k1_fun, vcall_fun]
theorem loop66 (call : CallF) (fuel base : Nat) (kx : Value → M → Res2) (c k : Nat) (hc : c ≤ 8) (hk : k ≤ 10) (m : M) : ∀ (n i : Nat), i ≤ k → k < n + i → r66_L0 call fuel base kx n (vi c) (vi k) (vi ((c ^ i : Nat) : Int)) (vi i) m = kx (vi ((c ^ k : Nat) : Int)) m
  | 0, i, h, hn => by omega
  | n + 1, i, h, hn => by
    rw [r66_L0_s, lss_nat, k1s]
    by_cases hlt : i < k
    · have hb : c ^ i * c ≤ 8 ^ 10 := by
        rw [← Nat.pow_succ]
        exact Nat.le_trans (Nat.pow_le_pow_left hc _) (Nat.pow_le_pow_right (by omega) (by omega))
      have h8 : (8 : Nat) ^ 10 = 1073741824 := by decide
      rw [decide_eq_true hlt, kbt, mul3, k1s, show ((c ^ i : Nat) : Int) * (c : Int) = ((c ^ i * c : Nat) : Int) by norm_cast, wr_id (by omega) (by omega), ← Nat.pow_succ, add1 i (by omega), k1s]
      exact loop66 call fuel base kx c k hc hk m n (i + 1) (by omega) (by omega)
    · rw [decide_eq_false hlt, kbf, show i = k by omega]
theorem t66 (n base c k : Nat) (hc : c ≤ 8) (hk : k ≤ 10) (hn : k < n) (m : M) : rt (n + 1) base 66 [vi c, vi k] m = some (.ret (vi ((c ^ k : Nat) : Int)), m) := by
  refine rt_pure (f := 66) (rf := rf66) (by kernel_rfl) (by kernel_rfl) (by kernel_rfl) n base _ m m _ ?_ rfl
  show r66 (rt n) n m.length (vi c) (vi k) m = _
  unfold r66
  rw [fVal_fun, show (.int .i64 1 : Value) = vi ((c ^ 0 : Nat) : Int) from rfl, i0, loop66 (rt n) n m.length _ c k hc hk m n 0 (Nat.zero_le _) (by omega)]
/-- Is it a North or a South? -/
def isL (l : List Wg) (c : Int) : Bool := l.any fun t => decide (t.1 = c) || decide (t.2.2.1 = c)
theorem loop67b (call : CallF) (fuel base : Nat) (kx : Value → Value → Value → Value → M → Res2) (x3 : Value) {m : M} {v : Value} {l : List Wg} (hT : Tiles m v l) (hl : l.length ≤ 1000) (c : Int) :
    ∀ (n j : Nat) (a : Bool), j ≤ l.length → l.length < n + j → r67_L2 call fuel base kx n v x3 (vi c) (.bool a) (vi j) m = kx v x3 (vi c) (.bool (a || isL (l.drop j) c)) m
  | 0, j, a, h, hn => by omega
  | n + 1, j, a, h, hn => by
    rw [r67_L2_s, hT.len, k2s, lss_nat, k1s]
    by_cases hlt : j < l.length
    · rw [decide_eq_true hlt, kbt, List.drop_eq_getElem_cons hlt]
      have e : isL (l[j] :: l.drop (j + 1)) c = ((decide (l[j].1 = c) || decide (l[j].2.2.1 = c)) || isL (l.drop (j + 1)) c) := rfl
      rw [e]
      cases a with
      | true =>
        rw [kbt, add1 j (by omega), k1s, loop67b call fuel base kx x3 hT hl c n (j + 1) true (by omega) (by omega), Bool.true_or, Bool.true_or]
      | false =>
        obtain ⟨q, s1, s2, _, s4, _⟩ := hT.side hlt
        rw [kbf, s1, k1s, s2, eql3, k1s]
        by_cases h1 : l[j].1 = c
        · rw [decide_eq_true h1, kbt, add1 j (by omega), k1s, loop67b call fuel base kx x3 hT hl c n (j + 1) true (by omega) (by omega)]
          rfl
        · rw [decide_eq_false h1, kbf, k1s, s4, eql3, k1s, add1 j (by omega), k1s, loop67b call fuel base kx x3 hT hl c n (j + 1) _ (by omega) (by omega)]
          simp
    · rw [decide_eq_false hlt, kbf, List.drop_eq_nil_of_le (by omega)]
      simp [isL]
def linesF (l : List Wg) : Nat → Nat → List Int := gathF fun c => if isL l c then [(c : Int)] else []
theorem linesF_len (l : List Wg) (n j : Nat) : (linesF l n j).length ≤ n := by
  have := gathF_len (f := fun c : Nat => if isL l c then [(c : Int)] else []) (q := 1) (fun i => by split <;> simp) n j
  unfold linesF
  omega
/-- The colours that are Norths or Souths. -/
def linesL (l : List Wg) : List Int := linesF l 8 0
theorem loop67 (call : CallF) (fuel base : Nat) (kx : Value → M → Res2) {m0 : M} (hbb : base ≤ m0.length) {v : Value} {l : List Wg} (hT : Tiles m0 v l) (hl : l.length ≤ 1000) (hf : l.length < fuel) :
    ∀ (n c : Nat) (m : M) (x : Value) (out : List Int), Grow 1 m0.length m x (out.map vi) out.length → out.length ≤ c → Keeps m0.length m0 m → c ≤ 8 → 8 < n + c →
      ∃ v' m', r67_L0 call fuel base kx n v x (vi c) m = kx v' m' ∧ Grow 1 m0.length m' v' ((out ++ linesF l (8 - c) c).map vi) (out ++ linesF l (8 - c) c).length ∧ Keeps m0.length m0 m'
  | 0, c, m, x, out, hG, ho, hK, hc, hn => by omega
  | n + 1, c, m, x, out, hG, ho, hK, hc, hn => by
    rw [r67_L0_s, show (.int .i64 7 : Value) = vi 7 from rfl, leq3, k1s]
    by_cases hlt : c < 8
    · rw [decide_eq_true (by omega), kbt, i0, loop67b call fuel base _ x (hT.keeps hK) hl c fuel 0 false (Nat.zero_le _) (by omega), List.drop_zero, Bool.false_or, show 8 - c = (8 - (c + 1)) + 1 by omega]
      show ∃ v' m', _ ∧ Grow 1 m0.length m' v' ((out ++ ((if isL l c then [(c : Int)] else []) ++ linesF l (8 - (c + 1)) (c + 1))).map vi) (out ++ ((if isL l c then [(c : Int)] else []) ++ linesF l (8 - (c + 1)) (c + 1))).length ∧ _
      cases hi : isL l c with
      | false =>
        rw [kbf, add1 c (by omega), k1s, if_neg (by simp), List.nil_append]
        exact loop67 call fuel base kx hbb hT hl hf n (c + 1) m x out hG (by omega) hK (by omega) (by omega)
      | true =>
        obtain ⟨v1, m1, e1, g1, k1, _⟩ := gg33 hG (by omega) hbb hK.1 c
        rw [kbt, e1, add1 c (by omega), k1s, if_pos rfl, ← List.append_assoc]
        have g1' : Grow 1 m0.length m1 v1 ((out ++ [(c : Int)]).map vi) (out ++ [(c : Int)]).length := by simpa using g1
        exact loop67 call fuel base kx hbb hT hl hf n (c + 1) m1 v1 (out ++ [(c : Int)]) g1' (by simp; omega) (hK.trans k1) (by omega) (by omega)
    · rw [decide_eq_false (by omega), kbf, show 8 - c = 0 by omega]
      exact ⟨x, m, rfl, by simpa [linesF, gathF] using hG, hK⟩
theorem t67 (n base : Nat) {m : M} (hbb : base ≤ m.length) {v : Value} {l : List Wg} (hT : Tiles m v l) (hl : l.length ≤ 1000) (hn : 1010 ≤ n) : ∃ v' m', rt (n + 1) base 67 [v] m = some (.ret v', m') ∧ Grow 1 m.length m' v' ((linesL l).map vi) (linesL l).length ∧ Keeps m.length m m' := by
  rw [rt_imp (f := 67) (rf := rf67) (by kernel_rfl) (by kernel_rfl) (by kernel_rfl) n base]
  show ∃ v' m', r67 (rt n) n base v m = _ ∧ _
  unfold r67
  rw [fVal_fun, i0]
  exact loop67 (rt n) n base (fun y m => some (.ret y, m)) hbb hT hl (by omega) n 0 m nilS [] (.inl ⟨rfl, rfl, rfl⟩) (Nat.zero_le _) (Keeps.refl _ _) (by omega) (by omega)
theorem linesL_le (l : List Wg) : (linesL l).length ≤ 8 := linesF_len l 8 0
/-- How many states a board of so many columns has. -/
def statesN (l : List Wg) (w : Nat) : Nat := (linesL l).length ^ w * 8
theorem statesN_le (l : List Wg) {w : Nat} (hw : w ≤ 4) : statesN l w ≤ 32768 := by
  unfold statesN
  have h1 : (linesL l).length ^ w ≤ 8 ^ 4 := Nat.le_trans (Nat.pow_le_pow_left (linesL_le l) _) (Nat.pow_le_pow_right (by omega) hw)
  have h2 : (8 : Nat) ^ 4 = 4096 := by decide
  omega
theorem t31 (n base : Nat) {m : M} {v : Value} {l : List Wg} (hT : Tiles m v l) (hl : l.length ≤ 1000) (w : Nat) (hw : w ≤ 4) (hn : 1010 ≤ n) : rt (n + 2) base 31 [v, vi w] m = some (.ret (vi (statesN l w)), m) := by
  have key : ∃ m1, r31 (rt (n + 1)) (n + 1) m.length v (vi w) m = some (.ret (vi (statesN l w)), m1) := by
    unfold r31
    obtain ⟨v1, m1, e1, g1, k1⟩ := t67 n m.length (Nat.le_refl _) hT hl hn
    have h1 := statesN_le l hw
    have h2 : statesN l w = (linesL l).length ^ w * 8 := rfl
    rw [k1_fun, fVal_fun, vcall_fun, e1, kcs, g1.ints.len, k2s, t66 n _ _ w (linesL_le l) (by omega) (by omega), kcs, show (.int .i64 8 : Value) = vi 8 from rfl, mul3, k1s, show (((linesL l).length ^ w : Nat) : Int) * 8 = ((statesN l w : Nat) : Int) by rw [h2]; norm_cast, wr_id (by omega) (by omega)]
    exact ⟨m1, rfl⟩
  obtain ⟨m1, h⟩ := key
  exact rt_pure (f := 31) (rf := rf31) (by kernel_rfl) (by kernel_rfl) (by kernel_rfl) (n + 1) base _ m m1 _ h rfl
end Go.AM
namespace Go.AM
open Go Go.Proofs
theorem kB_keeps {m m' : M} (h : Keeps m.length m m') (v : Value) : kB m (some (.ret v, m')) = some (.ret v, m') := by
  have e : m ++ m'.drop m.length = m' := by
    refine List.ext_getElem? fun i => ?_
    by_cases hi : i < m.length
    · rw [List.getElem?_append_left hi, h.2 i hi]
    · rw [List.getElem?_append_right (by omega), List.getElem?_drop]
      congr 1
      omega
  simp only [kB, fList_eq, e]
theorem RM.push {g : Bool} {b : Nat} {m : M} {v : Value} {ls : List (List Int)} (h : RM g b m v ls) (x : List Row) : RM g b (m ++ x) v ls := h.keeps (Keeps.push _ _ (Nat.le_refl _) _)
/-- One list more; no cell is touched. -/
theorem RM.one {b base : Nat} {m : M} {v : Value} {ls : List (List Int)} (h : RM true b m v ls) (hbb : base ≤ b) (hbm : b ≤ m.length) (hl : ls.length ≤ 1000) {p n : Nat} {k : List Int} (hk : Ints m (sl p n) k) (hne : k ≠ []) :
    ∃ (r : Nat) (m' : M), (∀ K : Value → M → Res2, (k2 (xbuildSlice E.P m 23 1 [(0, sl p n)]) fun w m => k2 (vcalln E.P base m .append [23, 23] [v, w]) K) = K (sl r (ls.length + 1)) m') ∧ RM true b m' (sl r (ls.length + 1)) (ls ++ [k]) ∧ Keeps b m m' ∧ ∀ (i : Nat) (cs : List Value), m[i]? = some (cellR cs) → m'[i]? = some (cellR cs) := by
  have hw : (m ++ [rowz 1 true [sl p n]])[m.length]? = some (rowz 1 true [sl p n]) := by simp
  have hk1 : Ints (m ++ [rowz 1 true [sl p n]]) (sl p n) k := hk.app _
  rcases h with ⟨rfl, rfl⟩ | ⟨q, ex, us, b1, b2, rfl, b4, b5, b6, b7⟩
  · refine ⟨m.length + 1, (m ++ [rowz 1 true [sl p n]]) ++ [rowz 1 false [sl p n]], fun K => ?_, .inr ⟨m.length + 1, false, [sl p n], fun _ => rfl, by omega, by simp, by simp, by simp, by simp, fun j h1 h2 => ?_⟩, (Keeps.push _ _ hbm _).trans (Keeps.push _ _ (by simp; omega) _), fun i cs hi => ?_⟩
    · rw [show (sl p n : Value) = slo p 0 n n from rfl, gb23_1, k2s, ga23e, ga23nil base _ m.length 1 1 _ hw rfl (by omega) (by omega), k2s]
      simp [rowz]
    · have : j = 0 := by simp at h1; exact h1
      subst this
      exact ⟨hk1.app _, hne⟩
    · have := (List.getElem?_eq_some_iff.1 hi).1
      rw [List.getElem?_append_left (by simp; omega), List.getElem?_append_left this]
      exact hi
  · obtain rfl := b1 rfl
    have hql := (List.getElem?_eq_some_iff.1 b4).1
    have b4' : (m ++ [rowz 1 true [sl p n]])[q]? = some (rowz 1 false us) := by rw [List.getElem?_append_left hql]; exact b4
    have hsl : ∀ x ∈ us, ∃ a n c, x = Value.slice a n c := fun x hx => by
      obtain ⟨a, n, c, e⟩ := RM.us (g := true) b5 b7 x hx
      exact ⟨_, _, _, e⟩
    refine ⟨m.length + 1, (m ++ [rowz 1 true [sl p n]]).set q (rowz 1 false []) ++ [rowz 1 false (us ++ [sl p n])], fun K => ?_, .inr ⟨m.length + 1, false, us ++ [sl p n], fun _ => rfl, by omega, by simp, by simp, by simp [b5], by simp, fun j h1 h2 => ?_⟩, ((Keeps.push _ _ hbm _).trans (Keeps.set b _ q _ b2)).trans (Keeps.push b _ (by simp; omega) _), fun i cs hi => ?_⟩
    · rw [show (sl p n : Value) = slo p 0 n n from rfl, gb23_1, k2s, ga23e, ga23some base _ q ls.length m.length 1 1 false us _ b4' (by omega) (.inr b6) (by omega) (by omega) (by omega) (Nat.le_trans hbb b2) hw rfl rfl, k2s]
      simp [rowz]
    · by_cases hj : j < us.length
      · rw [List.getElem_append_left hj, List.getElem_append_left (by omega)]
        obtain ⟨c1, c2⟩ := b7 j hj (by omega)
        exact ⟨((c1.app _).kill c2 b4' hsl _).app _, c2⟩
      · have hj2 : j = us.length := by simp at h1; omega
        subst hj2
        have e1 : (us ++ [sl p n])[us.length] = sl p n := by simp
        have e2 : (ls ++ [k])[us.length] = k := by rw [List.getElem_append_right (by omega)]; simp
        rw [e1, e2]
        exact ⟨(hk1.kill hne b4' hsl _).app _, hne⟩
    · have hil := (List.getElem?_eq_some_iff.1 hi).1
      have hne2 : q ≠ i := by
        rintro rfl
        rw [b4] at hi
        simp [cellR, rowz] at hi
      rw [List.getElem?_append_left (by simp; omega), List.getElem?_set_ne hne2, List.getElem?_append_left hil]
      exact hi
theorem SM.app {m : M} {ps N C : Nat} {Fs : Nat → Nat → Nat} (h : SM m ps N C Fs) (x : List Row) : SM (m ++ x) ps N C Fs := h.keeps (Keeps.push _ _ (Nat.le_refl _) _)
end Go.AM
namespace Go.AM
open Go Go.Proofs
theorem RowsM.fr {m m' : M} {v : Value} {rs : List Rw} (h : RowsM m v rs) (hf : ∀ (i : Nat) (row : Row), m[i]? = some row → row.esz ≠ 0 → m'[i]? = some row) : RowsM m' v rs := by
  rcases h with h | ⟨p, ex, h1, h2, h3⟩
  · exact .inl h
  · exact .inr ⟨p, ex, h1, hf p _ h2 (by simp [rowz]), h3⟩
theorem SM.fr {m m' : M} {ps N C : Nat} {Fs : Nat → Nat → Nat} (h : SM m ps N C Fs) (hf : ∀ (i : Nat) (row : Row), m[i]? = some row → row.esz ≠ 0 → m'[i]? = some row) : SM m' ps N C Fs :=
  ⟨hf _ _ h.hs (by simp [rowz]), fun i hi => hf _ _ (h.hv i hi) (by simp [rowz])⟩
end Go.AM
namespace Go.AM
open Go Go.Proofs
theorem r102_L0_s (call : CallF) (fuel base : Nat) (kr : Value → M → Res2) (kx0 : M → Res2) (n : Nat) (x0 x1 x5 : Value) (m : M) : r102_L0 call fuel base kr kx0 (n + 1) x0 x1 x5 m =
    (k2 (vcalln E.P base m .len [33] [x0]) fun v8_1 m => (k1n (mbin E .lss 3 x5 v8_1) fun v9_2 => (kb v9_2 (k1n (mindexAddr E.P 33 x0 x5) fun v14_3 => (k1n (xload E.P m 3 v14_3) fun v15_4 => (k1n (mbin E .eql 3 v15_4 x1) fun v17_5 => (kb v17_5 (kr x5 m) (k1n (mbin E .add 3 x5 (.int .i64 1)) fun v11_6 => (r102_L0 call fuel base kr kx0 n x0 x1 v11_6 m)))))) (kx0 m)))) := by
  unfold r102_L0
  rw [k1_fun, vcall_fun]
theorem loop102 (call : CallF) (fuel base : Nat) (kr : Value → M → Res2) (kx : M → Res2) {m : M} {v : Value} {l : List Int} (hI : Ints m v l) (hl : l.length ≤ 1000) (c : Int) :
    ∀ (n j : Nat), j ≤ l.length → l.length < n + j → (∃ z : Int, idxC (l.drop j) c j = z ∧ 0 ≤ z ∧ r102_L0 call fuel base kr kx n v (vi c) (vi j) m = kr (vi z) m) ∨ (idxC (l.drop j) c j = -1 ∧ r102_L0 call fuel base kr kx n v (vi c) (vi j) m = kx m)
  | 0, j, h, hn => by omega
  | n + 1, j, h, hn => by
    rw [r102_L0_s, hI.len, k2s, lss_nat, k1s]
    by_cases hlt : j < l.length
    · rw [decide_eq_true hlt, kbt, hI.get hlt, eql3, k1s, List.drop_eq_getElem_cons hlt]
      unfold idxC
      by_cases e : l[j] = c
      · rw [decide_eq_true e, kbt, if_pos e]
        exact .inl ⟨j, rfl, by omega, rfl⟩
      · rw [decide_eq_false e, kbf, add1 j (by omega), k1s, if_neg e]
        exact loop102 call fuel base kr kx hI hl c n (j + 1) (by omega) (by omega)
    · rw [decide_eq_false hlt, kbf, List.drop_eq_nil_of_le (by omega)]
      exact .inr ⟨rfl, rfl⟩
theorem t102 (n base : Nat) {m : M} {v : Value} {l : List Int} (hI : Ints m v l) (hl : l.length ≤ 1000) (hn : l.length < n) (c : Int) : rt (n + 1) base 102 [v, vi c] m = some (.ret (vi (idxC l c 0)), m) := by
  refine rt_pure (f := 102) (rf := rf102) (by kernel_rfl) (by kernel_rfl) (by kernel_rfl) n base _ m m _ ?_ rfl
  show r102 (rt n) n m.length v (vi c) m = _
  unfold r102
  rw [fVal_fun, i0]
  rcases loop102 (rt n) n m.length (fun y m => some (.ret y, m)) (fun m => some (.ret (.int .i64 (-1)), m)) hI hl c n 0 (Nat.zero_le _) (by omega) with ⟨z, h1, _, h2⟩ | ⟨h1, h2⟩
  · rw [List.drop_zero] at h1
    rw [h1]; exact h2
  · rw [List.drop_zero] at h1
    rw [h1]; exact h2
theorem mulB (a b : Nat) (h : a * b ≤ 1000000000) : mbin E .mul 3 (vi a) (vi b) = some (vi ((a * b : Nat) : Int)) := by
  rw [mul3, show (a : Int) * b = ((a * b : Nat) : Int) by simp, wr_id (by omega) (by omega)]
end Go.AM
namespace Go.AM
open Go Go.Proofs
theorem gathF_sum {α : Type} (f : Nat → List α) : ∀ (n j : Nat), (gathF f n j).length = sumN (fun i => (f i).length) n j
  | 0, _ => rfl
  | n + 1, j => by
    rw [gathF_succ, List.length_append, gathF_sum f n (j + 1)]
    rfl
theorem dig_lt {ls : List Int} {t : Wg} (h : t.2.2.1 ∈ ls) : digS ls t < ls.length := by
  obtain ⟨k, e1, e2, _⟩ := idxC_mem (i := 0) h
  unfold digS
  rw [e1, Nat.zero_add, Int.toNat_natCast]
  exact e2
/-- The lists of ways: those from place p on are there. -/
structure WM (m : M) (po T C p : Nat) (F : Nat → Nat → Nat) : Prop where
  hs : m[po]? = some (rowz 1 true ((List.range (T + 1)).map fun j => if p ≤ j then sl (po + 1 + (T - j)) C else nilS))
  hv : ∀ j, p ≤ j → j ≤ T → VecM m (po + 1 + (T - j)) C (F j)
theorem WM.get {m : M} {po T C p : Nat} {F : Nat → Nat → Nat} (h : WM m po T C p F) {j : Nat} (h1 : p ≤ j) (h2 : j ≤ T) (K : Value → Res2) : (k1n (mindexAddr E.P 23 (sl po (T + 1)) (vi j)) fun a => k1n (xload E.P m 33 a) K) = K (sl (po + 1 + (T - j)) C) := by
  rw [ix23 _ _ _ _ (by omega), k1s, ld33]
  unfold mcell
  rw [h.hs]
  show k1n (((List.range (T + 1)).map fun j => if p ≤ j then (sl (po + 1 + (T - j)) C : Value) else nilS)[j]?) K = _
  rw [List.getElem?_map, List.getElem?_range (by omega)]
  show k1n (some (if p ≤ j then (sl (po + 1 + (T - j)) C : Value) else nilS)) K = _
  rw [if_pos h1]
  rfl
end Go.AM
namespace Go.AM
open Go Go.Proofs
theorem Tiles.at {m m' : M} {v : Value} {l : List Wg} (h : Tiles m v l) (hk : ∀ i, i < m.length → m'[i]? = m[i]?) : Tiles m' v l := by
  rcases h with h | ⟨p, off, c, row, h1, h2, h3, h4⟩
  · exact .inl h
  · exact .inr ⟨p, off, c, row, h1, h2, (hk p (List.getElem?_eq_some_iff.1 h3).1).trans h3, h4⟩
theorem lines_mem {l : List Wg} (hcol : ∀ t ∈ l, colT t) : ∀ t ∈ l, t.2.2.1 ∈ linesL l := fun t ht => by
  have hS := (hcol t ht).2.2.1
  unfold col at hS
  unfold linesL linesF
  refine mem_gathF.2 ⟨t.2.2.1.toNat, Nat.zero_le _, by omega, ?_⟩
  have e : ((t.2.2.1.toNat : Nat) : Int) = t.2.2.1 := by omega
  rw [e]
  have hi : isL l t.2.2.1 = true := by
    unfold isL
    rw [List.any_eq_true]
    exact ⟨t, ht, by simp⟩
  rw [hi, if_pos rfl]
  simp
theorem lines_pos {l : List Wg} (hcol : ∀ t ∈ l, colT t) (h1 : 1 ≤ l.length) : 1 ≤ (linesL l).length := by
  cases l with
  | nil => simp at h1
  | cons t l => exact List.length_pos_of_mem (lines_mem hcol t (by simp))
end Go.AM
namespace Go.AM
open Go Go.Proofs
theorem r103_L0_s (call : CallF) (fuel base : Nat) (kx0 : Value → Value → M → Res2) (n : Nat) (x2 x3 x10 x11 x12 : Value) (m : M) : r103_L0 call fuel base kx0 (n + 1) x2 x3 x10 x11 x12 m =
    (k1n (mbin E .lss 3 x12 x11) fun v13_10 => (kb v13_10 (k1n (mindexAddr E.P 74 x10 x12) fun v14_11 => (k1n (xload E.P m 109 v14_11) fun v15_12 => (k2 (xalloc E.P m 109) fun v5_13 m => (ks (xstore E.P base m 109 v5_13 v15_12) fun m => (k1n (mfieldAddr E.P 109 v5_13 4) fun v16_14 => (k1n (xload E.P m 3 v16_14) fun v17_15 => (k1n (mfieldAddr E.P 109 v5_13 3) fun v18_16 => (k1n (xload E.P m 3 v18_16) fun v19_17 => (k1n (mbin E .eql 3 v17_15 v19_17) fun v20_18 => (kb v20_18 (k1n (mfieldAddr E.P 76 x3 1) fun v21_19 => (k1n (xload E.P m 74 v21_19) fun v22_20 => (k1n (xload E.P m 109 v5_13) fun v23_21 => (k2 (xbuildSlice E.P m 74 1 [(0, v23_21)]) fun v24_22 m => (k2 (vcalln E.P base m .append [74, 74] [v22_20, v24_22]) fun v25_23 m => (k1n (mfieldAddr E.P 76 x3 1) fun v26_24 => (ks (xstore E.P base m 74 v26_24 v25_23) fun m => (k1n (mbin E .add 3 x12 (.int .i64 1)) fun v27_25 => (r103_L0 call fuel base kx0 n x2 x3 x10 x11 v27_25 m))))))))) (k1n (mbin E .add 3 x12 (.int .i64 1)) fun v27_26 => (r103_L0 call fuel base kx0 n x2 x3 x10 x11 v27_26 m)))))))))))) (kx0 x2 x3 m))) := by
  unfold r103_L0
  rw [k1_fun, vcall_fun]
def isR (r : Rw) : Bool := decide (r.e = r.w)
def ringL (rs : List Rw) : List Rw := rs.filter isR
theorem loop103 (call : CallF) (fuel base : Nat) (kx : Value → Value → M → Res2) {m0 : M} {c3 w : Nat} (x2 : Value) (hbb : base ≤ c3) (hc3 : c3 < m0.length) {rv : Value} {rs : List Rw} (hR : RowsM m0 rv rs) (hrs : rs.length ≤ 70000) (hrc : ∀ row, m0[c3]? = some row → row.esz = 0) :
    ∀ (n j : Nat) (m : M) (sv : Value), m0.length ≤ m.length → (∀ i, i < m0.length → i ≠ c3 → m[i]? = m0[i]?) → m[c3]? = some (cellR [vi w, sv]) → Grow 8 m0.length m sv (flatR (ringL (rs.take j))) (ringL (rs.take j)).length → j ≤ rs.length → rs.length < n + j →
      ∃ sv' m', r103_L0 call fuel base kx n x2 (pt c3 0) rv (vi rs.length) (vi j) m = kx x2 (pt c3 0) m' ∧ m0.length ≤ m'.length ∧ (∀ i, i < m0.length → i ≠ c3 → m'[i]? = m0[i]?) ∧ m'[c3]? = some (cellR [vi w, sv']) ∧ Grow 8 m0.length m' sv' (flatR (ringL rs)) (ringL rs).length
  | 0, j, m, sv, _, _, _, _, hj, hn => by omega
  | n + 1, j, m, sv, hl, hfr, hc, hG, hj, hn => by
    rw [r103_L0_s, lss_nat, k1s]
    by_cases hlt : j < rs.length
    · have hbm : base ≤ m.length := by omega
      have hRm : RowsM m rv rs := hR.fr fun i row hi he => by
        have hil := (List.getElem?_eq_some_iff.1 hi).1
        rw [hfr i hil (fun e => by subst e; exact he (hrc row hi))]
        exact hi
      have htk : rs.take (j + 1) = rs.take j ++ [rs[j]] := List.take_succ_eq_append_getElem hlt
      have hcl := (List.getElem?_eq_some_iff.1 hc).1
      rw [decide_eq_true hlt, kbt, hRm.get hlt, letR hbm]
      have hq : (m ++ [cellR rs[j].cs])[m.length]? = some (cellR rs[j].cs) := by simp
      have hc1 : (m ++ [cellR rs[j].cs])[c3]? = some (cellR [vi w, sv]) := by rw [List.getElem?_append_left hcl]; exact hc
      rw [ff109_4, k1s, ld3, show mcell (m ++ [cellR rs[j].cs]) m.length (0 + 7) = some (vi rs[j].e) from box_cell hq _ _ rfl, k1s, ff109_3, k1s, ld3, show mcell (m ++ [cellR rs[j].cs]) m.length (0 + 6) = some (vi rs[j].w) from box_cell hq _ _ rfl, k1s, eql3, k1s]
      by_cases he : rs[j].e = rs[j].w
      · have hr2 : ringL (rs.take (j + 1)) = ringL (rs.take j) ++ [rs[j]] := by
          rw [htk]
          unfold ringL isR
          rw [List.filter_append]
          simp [he]
        rw [decide_eq_true he, kbt, ff76_1, k1s, ld74, show mcell (m ++ [cellR rs[j].cs]) c3 (0 + 1) = some sv from box_cell hc1 _ _ rfl, k1s, ldb109 (show (m ++ [cellR rs[j].cs])[m.length]? = some (cellR [vi rs[j].a0, vi rs[j].a1, vi rs[j].a2, vi rs[j].a3, vi rs[j].n, vi rs[j].s, vi rs[j].w, vi rs[j].e]) from hq), k1s]
        have hlen : (ringL (rs.take j)).length ≤ 70000 := by
          have := List.length_filter_le isR (rs.take j)
          have h2 : (rs.take j).length ≤ j := by simp; omega
          unfold ringL
          omega
        obtain ⟨v1, m1, e1, g1, k1, o1, _⟩ := gg74 (b := m0.length) (base := base) (hG.push [cellR rs[j].cs]) hlen (by omega) (by simp; omega) rs[j].a0 rs[j].a1 rs[j].a2 rs[j].a3 rs[j].n rs[j].s rs[j].w rs[j].e
        have hc2 : m1[c3]? = some (cellR [vi w, sv]) := (k1.2 c3 hc3).trans hc1
        rw [e1, k1s]
        rcases g1 with ⟨g0, _⟩ | ⟨rr, ga, gb, rfl, gd, ge⟩
        · omega
        · rw [st74, mwrite_one hbb hc2 rfl (by show 0 + 1 < 2; omega) rfl, kss, add1 j (by omega), k1s]
          have hset : ({ cellR [vi w, sv] with cells := (cellR [vi w, sv]).cells.set (0 + 1) (sl rr ((ringL (rs.take j)).length + 1)) } : Row) = cellR [vi w, sl rr ((ringL (rs.take j)).length + 1)] := rfl
          rw [hset]
          have hl1 := k1.1
          refine loop103 call fuel base kx x2 hbb hc3 hR hrs hrc n (j + 1) _ (sl rr ((ringL (rs.take j)).length + 1)) (by simp at hl1 ⊢; omega) (fun i hi hne => ?_) (List.getElem?_set_self (List.getElem?_eq_some_iff.1 hc2).1) (.inr ⟨rr, by rw [hr2]; simp, gb, by rw [hr2]; simp, ?_, by rw [flatR_len]⟩) (by omega) (by omega)
          · rw [List.getElem?_set_ne (Ne.symm hne), k1.2 i hi, List.getElem?_append_left (by omega)]
            exact hfr i hi hne
          · rw [List.getElem?_set_ne (by omega), gd, hr2, flatR_append]
            rfl
      · have hr2 : ringL (rs.take (j + 1)) = ringL (rs.take j) := by
          rw [htk]
          unfold ringL isR
          rw [List.filter_append]
          simp [he]
        rw [decide_eq_false he, kbf, add1 j (by omega), k1s]
        refine loop103 call fuel base kx x2 hbb hc3 hR hrs hrc n (j + 1) _ sv (by simp; omega) (fun i hi hne => ?_) hc1 ?_ (by omega) (by omega)
        · rw [List.getElem?_append_left (by omega)]
          exact hfr i hi hne
        · rw [hr2]
          exact hG.push _
    · rw [decide_eq_false hlt, kbf]
      rw [List.take_of_length_le (by omega)] at hG
      exact ⟨sv, m, rfl, hl, hfr, hc, hG⟩
theorem mb76 (w : Int) : mbuild E.P 76 [(0, vi w)] = some (.agg #[vi w, nilS]) := by kernel_rfl
theorem t103 (n base w : Nat) {m : M} (hbb : base ≤ m.length) {rv : Value} {rs : List Rw} (hR : RowsM m rv rs) (hrs : rs.length ≤ 70000) (hn : rs.length < n) : ∃ sv m', rt (n + 1) base 103 [.agg #[vi w, rv]] m = some (.ret (.agg #[vi w, sv]), m') ∧ RowsM m' sv (ringL rs) ∧ Keeps m.length m m' := by
  rw [rt_imp (f := 103) (rf := rf103) (by kernel_rfl) (by kernel_rfl) (by kernel_rfl) n base]
  show ∃ sv m', r103 (rt n) n base (.agg #[vi w, rv]) m = _ ∧ _
  unfold r103
  have hq0 : (m ++ [cellR [vi w, rv]])[m.length]? = some (cellR [vi w, rv]) := by simp
  rw [k1_fun, fVal_fun, vcall_fun, bxa2, k2s, al76, k2s, ff76_0, k1s, ld3]
  have hq1 : (m ++ [cellR [vi w, rv]] ++ [cellR [.int .i64 0, .slice none 0 0]])[m.length]? = some (cellR [vi w, rv]) := by rw [List.getElem?_append_left (by simp)]; exact hq0
  rw [show mcell (m ++ [cellR [vi w, rv]] ++ [cellR [.int .i64 0, .slice none 0 0]]) m.length (0 + 0) = some (vi w) from box_cell hq1 _ _ rfl, k1s, mb76, k1s, al76, k2s, st76 (b0 := .int .i64 0) (b1 := .slice none 0 0) (by simp; omega) (by simp) rfl, kss]
  have hset : (m ++ [cellR [vi w, rv]] ++ [cellR [.int .i64 0, .slice none 0 0]] ++ [cellR [.int .i64 0, .slice none 0 0]]).set (m ++ [cellR [vi w, rv]] ++ [cellR [.int .i64 0, .slice none 0 0]]).length (cellR [vi w, nilS]) = m ++ [cellR [vi w, rv]] ++ [cellR [.int .i64 0, .slice none 0 0]] ++ [cellR [vi w, nilS]] := by simp
  rw [hset, show (m ++ [cellR [vi w, rv]] ++ [cellR [.int .i64 0, .slice none 0 0]]).length = m.length + 2 by simp, show (m ++ [cellR [vi w, rv]]).length = m.length + 1 by simp]
  generalize hm3 : m ++ [cellR [vi w, rv]] ++ [cellR [.int .i64 0, .slice none 0 0]] ++ [cellR [vi w, nilS]] = m3
  have l3 : m3.length = m.length + 3 := by rw [← hm3]; simp
  have k3 : Keeps m.length m m3 := ⟨by omega, fun i hi => by rw [← hm3, List.getElem?_append_left (by simp; omega), List.getElem?_append_left (by simp; omega), List.getElem?_append_left hi]⟩
  have g1 : m3[m.length]? = some (cellR [vi w, rv]) := by rw [← hm3, List.getElem?_append_left (by simp)]; exact hq1
  have g2 : m3[m.length + 1]? = some (cellR [.int .i64 0, .slice none 0 0]) := by
    rw [← hm3, List.getElem?_append_left (by simp), List.getElem?_append_right (by simp)]
    simp
  have g3 : m3[m.length + 2]? = some (cellR [vi w, nilS]) := by
    rw [← hm3, List.getElem?_append_right (by simp)]
    simp
  have hR3 := hR.keeps k3
  rw [ff76_1, k1s, ld74, show mcell m3 m.length (0 + 1) = some rv from box_cell g1 _ _ rfl, k1s, hR3.len, k2s, i0]
  obtain ⟨sv, m4, e4, a1, a2, a3, a4⟩ := loop103 (rt n) n base (fun y2_27 y3_28 m => (k1n (xload E.P m 76 y3_28) fun v28_29 => (ks (xstore E.P base m 76 y2_27 v28_29) fun m => (k0 (mload E.P m 76 y2_27) fun r_30 => (some (.ret r_30, m)))))) (m0 := m3) (c3 := m.length + 2) (w := w) (pt (m.length + 1) 0) (by omega) (by omega) hR3 hrs (fun row hr => by rw [g3] at hr; simp only [Option.some.injEq] at hr; subst hr; rfl) n 0 m3 nilS (Nat.le_refl _) (fun _ _ _ => rfl) g3 (.inl ⟨rfl, rfl, rfl⟩) (Nat.zero_le _) (by omega)
  have g2' : m4[m.length + 1]? = some (cellR [.int .i64 0, .slice none 0 0]) := by rw [a2 _ (by omega) (by omega)]; exact g2
  have hone : ([vi w, sv] : List Value).all (·.oneCell') = true := by
    rcases a4 with ⟨_, rfl, _⟩ | ⟨_, _, _, rfl, _⟩ <;> rfl
  have hself : (m4.set (m.length + 1) (cellR [vi w, sv]))[m.length + 1]? = some (cellR [vi w, sv]) := List.getElem?_set_self (by omega)
  refine ⟨sv, m4.set (m.length + 1) (cellR [vi w, sv]), ?_, ?_, ⟨by simp; omega, fun i hi => ?_⟩⟩
  · rw [e4, ldb76 a3, k1s, st76 (by omega) g2' hone, kss, ml76 hself]
    rfl
  · refine (RowsM.grow a4).fr fun i row hi he => ?_
    by_cases e : i = m.length + 1
    · subst e
      rw [g2'] at hi
      simp only [Option.some.injEq] at hi
      subst hi
      exact absurd rfl he
    · rw [List.getElem?_set_ne (Ne.symm e)]
      exact hi
  · rw [List.getElem?_set_ne (by omega), a2 i (by omega) (by omega)]
    exact k3.2 i hi
end Go.AM
namespace Go.AM
open Go Go.Proofs
theorem r73_L0_s (call : CallF) (fuel base : Nat) (kp : Value → M → Res2) (kx0 : Value → M → Res2) (n : Nat) (x5 x6 x7 x8 x9 x32 x33 : Value) (m : M) : r73_L0 call fuel base kp kx0 (n + 1) x5 x6 x7 x8 x9 x32 x33 m =
    (k1n (mbin E .lss 3 x33 x32) fun v34_15 => (kb v34_15 (k1n (mindexAddr E.P 103 x5 x33) fun v38_16 => (k1n (xload E.P m 33 v38_16) fun v39_17 => (k2 (vcalln E.P base m .len [33] [v39_17]) fun v40_18 m => (k1n (mbin E .eql 3 v40_18 (.int .i64 0)) fun v41_19 => (kb v41_19 (k1n (mbin E .add 3 x33 (.int .i64 1)) fun v74_20 => (r73_L0 call fuel base kp kx0 n x5 x6 x7 x8 x9 x32 v74_20 m)) (k1n (mindexAddr E.P 103 x6 x33) fun v45_21 => (k1n (xload E.P m 33 v45_21) fun v46_22 => (k2 (vcalln E.P base m .len [33] [v46_22]) fun v47_23 m => (k1n (mbin E .eql 3 v47_23 (.int .i64 0)) fun v48_24 => (kb v48_24 (k1n (mbin E .add 3 x33 (.int .i64 1)) fun v74_25 => (r73_L0 call fuel base kp kx0 n x5 x6 x7 x8 x9 x32 v74_25 m)) (kc (call base 105 [x5, x33, x7] m) (fun v53_26 m => (kc (call base 105 [x6, x33, x8] m) (fun v57_27 m => (k2 (vcalln E.P base m .len [33] [v53_26]) fun v59_28 m => (r73_L2 call fuel base (fun v m => kp v m) (fun y5_37 y6_38 y7_39 y8_40 y9_41 y32_42 y33_43 m => (k1n (mbin E .add 3 y33_43 (.int .i64 1)) fun v74_44 => (r73_L0 call fuel base kp kx0 n y5_37 y6_38 y7_39 y8_40 y9_41 y32_42 v74_44 m))) fuel x5 x6 x7 x8 x9 v57_27 x32 x33 v53_26 v59_28 (.int .i64 0) m))) (fun v m => kp v m))) (fun v m => kp v m)))))))))))) (kx0 x9 m))) := by
  unfold r73_L0
  rw [k1_fun, vcall_fun]
theorem r73_L2_s (call : CallF) (fuel base : Nat) (kp : Value → M → Res2) (kx2 : Value → Value → Value → Value → Value → Value → Value → M → Res2) (n : Nat) (x5 x6 x7 x8 x9 x12 x32 x33 x58 x59 x60 : Value) (m : M) : r73_L2 call fuel base kp kx2 (n + 1) x5 x6 x7 x8 x9 x12 x32 x33 x58 x59 x60 m =
    (k1n (mbin E .lss 3 x60 x59) fun v61_29 => (kb v61_29 (k1n (mindexAddr E.P 33 x58 x60) fun v63_30 => (k1n (xload E.P m 3 v63_30) fun v64_31 => (k1n (mindexAddr E.P 33 x12 x60) fun v69_32 => (k1n (xload E.P m 3 v69_32) fun v70_33 => (k1n (mbin E .mul 3 v64_31 v70_33) fun v71_34 => (kc (call base 99 [x9, v71_34] m) (fun v72_35 m => (k1n (mbin E .add 3 x60 (.int .i64 1)) fun v73_36 => (r73_L2 call fuel base kp kx2 n x5 x6 x7 x8 v72_35 x12 x32 x33 x58 x59 v73_36 m))) (fun v m => kp v m))))))) (kx2 x5 x6 x7 x8 x9 x32 x33 m))) := by
  unfold r73_L2
  rw [k1_fun]
def dlt (code i : Nat) : Nat := if i = code then 1 else 0
theorem dlt_le (code i : Nat) : dlt code i ≤ 1099511627777 := by unfold dlt; split <;> omega
theorem t105 (n0 base : Nat) {m : M} {pl ps N C code : Nat} (hbb : base ≤ ps) {V : Nat → Value} {f : Nat → List Int} {Fs : Nat → Nat → Nat} (hS : SM m ps N C Fs) (hcode : code < C)
    (hl : ∀ j, j < C → ∀ m' : M, (∀ i, (i ≤ ps ∨ ps + N < i) → m'[i]? = m[i]?) → xload E.P m' 33 (pt pl j) = some (V j) ∧ Ints m' (V j) (f j)) (hos : ∀ j, ∀ o ∈ f j, ∃ a : Nat, o = a ∧ a < C) (hol : ∀ j, (f j).length < n0 + 1) (hol2 : ∀ j, (f j).length ≤ 1000000) (hC : C ≤ 1000000) (hCn : C < n0 + 1) (hN1 : 1 ≤ N) (hN : N ≤ 1000) (hNn : N < n0 + 2) :
    ∃ m' Fs', rt (n0 + 4) base 105 [sl pl C, vi code, sl ps N] m = some (.ret (sl (ps + 1 + (N - 1)) C), m') ∧ SM m' ps N C Fs' ∧ Fs' (N - 1) = walkF (dlt code) f C (N - 1) ∧ (∀ i, (i ≤ ps ∨ ps + N < i) → m'[i]? = m[i]?) ∧ m'.length = m.length := by
  rw [rt_imp (f := 105) (rf := rf105) (by kernel_rfl) (by kernel_rfl) (by kernel_rfl) (n0 + 3) base]
  show ∃ m' Fs', r105 (rt (n0 + 3)) (n0 + 3) base (sl pl C) (vi code) (sl ps N) m = _ ∧ _
  have hz : ∀ i, ps + 1 + 0 ≠ i → i ≠ ps + 1 + 0 := fun i h => Ne.symm h
  obtain ⟨m1, c1, V1, l1, o1⟩ := (hS.hv 0 (by omega)).clear (base := base) (by omega)
  have S1 : SM m1 ps N C (fun i => if i = 0 then fun _ => 0 else Fs i) := ⟨(o1 ps (by omega)).trans hS.hs, fun i hi => by
    by_cases e : i = 0
    · subst e; rw [if_pos rfl]; exact V1
    · rw [if_neg e]; exact (o1 _ (by omega)).trans (hS.hv i hi)⟩
  obtain ⟨m2, e2, V2, l2, o2⟩ := V1.st (base := base) (by omega) hcode 1
  have S2 : SM m2 ps N C (fun i => if i = 0 then dlt code else Fs i) := ⟨(o2 ps (by omega)).trans S1.hs, fun i hi => by
    by_cases e : i = 0
    · subst e; rw [if_pos rfl]; exact V2
    · rw [if_neg e]
      have := S1.hv i hi
      rw [if_neg e] at this
      exact (o2 _ (by omega)).trans this⟩
  have fr2 : ∀ i, (i ≤ ps ∨ ps + N < i) → m2[i]? = m[i]? := fun i hi => (o2 i (by omega)).trans (o1 i (by omega))
  obtain ⟨m3, Fs', z1, z2, z3, z4, z5⟩ := t117 n0 base (m := m2) (pl := pl) (ps := ps) (N := N) (C := C) hbb (V := V) (f := f) S2 (fun i => by rw [if_pos rfl]; exact dlt_le code i) (fun j hj m' h => hl j hj m' fun i hi => (h i hi).trans (fr2 i hi)) hos hol hol2 hC hCn hN1 hN hNn
  unfold r105
  rw [k1_fun, fVal_fun, vcall_fun, i0, hS.get (i := 0) (by omega), c1, S1.get (i := 0) (by omega), ix33 _ _ _ _ hcode, k1s, show (.int .i64 1 : Value) = vi ((1 : Nat) : Int) from rfl, e2, kss, z1, kcs, len23, k2s, show (vi ((1 : Nat) : Int) : Value) = .int .i64 1 from rfl, sub1 N hN1 (by omega), k1s, z2.get (i := N - 1) (by omega)]
  exact ⟨m3, Fs', rfl, z2, by have := z3 (N - 1) (by omega); rw [if_pos rfl] at this; exact this, fun i hi => (z4 i hi).trans (fr2 i hi), by omega⟩
theorem wr_id2 {n : Int} (h0 : 0 ≤ n) (h1 : n < 9223372036854775808) : wr n = n := by
  unfold wr IntKind.wrap
  simp [IntKind.bits, IntKind.signed]
  omega
theorem t99B (n base : Nat) (a b : Nat) (ha : a ≤ 1099511627777) (hb : b ≤ 4611686018427387904) (m : M) : rt (n + 1) base 99 [vi a, vi b] m = some (.ret (vi (satS a b)), m) := by
  refine rt_pure (f := 99) (rf := rf99) (by kernel_rfl) (by kernel_rfl) (by kernel_rfl) n base _ m m _ ?_ rfl
  show r99 (rt n) n m.length (vi a) (vi b) m = _
  unfold r99 satS
  rw [k1_fun, fVal_fun, vcall_fun, add3, k1s, wr_id2 (by omega) (by omega), show (.int .i64 1099511627777 : Value) = vi 1099511627777 from rfl, min3, k2s]
  by_cases h : (1099511627777 : Int) < (a : Int) + b
  · rw [if_pos h, show min (a + b) 1099511627777 = 1099511627777 by omega]; rfl
  · rw [if_neg h, show min (a + b) 1099511627777 = a + b by omega]; rfl
theorem loop73b (n0 base : Nat) (kp : Value → M → Res2) (kx : Value → Value → Value → Value → Value → Value → Value → M → Res2) (x5 x6 x7 x8 x32 x33 : Value) {m : M} {pd pu C : Nat} {D U : Nat → Nat} (hD : VecM m pd C D) (hU : VecM m pu C U) (hpr : ∀ i, D i * U i ≤ 4611686018427387904) (hC : C ≤ 1000000) :
    ∀ (n j a : Nat), a ≤ 1099511627777 → j ≤ C → C < n + j → r73_L2 (rt (n0 + 1)) (n0 + 1) base kp kx n x5 x6 x7 x8 (vi a) (sl pu C) x32 x33 (sl pd C) (vi C) (vi j) m = kx x5 x6 x7 x8 (vi (sumF (fun i => D i * U i) (C - j) j a)) x32 x33 m
  | 0, j, a, ha, hj, hn => by omega
  | n + 1, j, a, ha, hj, hn => by
    rw [r73_L2_s, lss_nat, k1s]
    by_cases hlt : j < C
    · have hp := hpr j
      rw [decide_eq_true hlt, kbt, ix33 _ _ _ _ hlt, k1s, hD.ld hlt, k1s, ix33 _ _ _ _ hlt, k1s, hU.ld hlt, k1s, mul3, k1s, show ((D j : Nat) : Int) * ((U j : Nat) : Int) = ((D j * U j : Nat) : Int) by norm_cast]
      have hs : sumF (fun i => D i * U i) (C - j) j a = sumF (fun i => D i * U i) (C - (j + 1)) (j + 1) (satS a (D j * U j)) := by
        rw [show C - j = (C - (j + 1)) + 1 by omega]; rfl
      rw [hs]
      generalize D j * U j = q at hp ⊢
      rw [wr_id2 (by omega) (by omega), t99B n0 base _ _ ha hp, kcs, add1 j (by omega), k1s]
      exact loop73b n0 base kp kx x5 x6 x7 x8 x32 x33 hD hU hpr hC n (j + 1) _ (satS_le _ _) (by omega) (by omega)
    · rw [decide_eq_false hlt, kbf, show C - j = 0 by omega]
      rfl
/-- What a code adds: closed boards that begin and end with it. -/
def closG (f : Nat → List Int) (C : Nat) (D U : Nat → Nat → Nat) (code a : Nat) : Nat := if (f code).length = 0 ∨ (f (C + code)).length = 0 then a else sumF (fun i => D code i * U code i) C 0 a
def outG (f : Nat → List Int) (C : Nat) (D U : Nat → Nat → Nat) : Nat → Nat → Nat → Nat
  | 0, _, a => a
  | n + 1, j, a => outG f C D U n (j + 1) (closG f C D U j a)
theorem sumF_le {F : Nat → Nat} : ∀ (k j a : Nat), a ≤ 1099511627777 → sumF F k j a ≤ 1099511627777
  | 0, _, _, h => h
  | k + 1, j, a, _ => sumF_le k (j + 1) _ (satS_le _ _)
theorem closG_le {f : Nat → List Int} {C : Nat} {D U : Nat → Nat → Nat} {code a : Nat} (h : a ≤ 1099511627777) : closG f C D U code a ≤ 1099511627777 := by
  unfold closG
  split
  · exact h
  · exact sumF_le _ _ _ h
theorem loop73 (n0 base : Nat) (hn0 : 70000 ≤ n0) (kp : Value → M → Res2) (kx : Value → M → Res2) {m0 : M} {C p1 p2 pf pc Nf Nc : Nat} {V : Nat → Value} {f : Nat → List Int} (hC : C ≤ 5000) (hpf : base ≤ pf) (hfc : pf + Nf < pc) (hNf1 : 1 ≤ Nf) (hNf : Nf ≤ 100) (hNc1 : 1 ≤ Nc) (hNc : Nc ≤ 100)
    (hl : ∀ m : M, (∀ i, i < pf → m[i]? = m0[i]?) → ∀ j, j < C → (xload E.P m 33 (pt p1 j) = some (V j) ∧ Ints m (V j) (f j)) ∧ (xload E.P m 33 (pt p2 j) = some (V (C + j)) ∧ Ints m (V (C + j)) (f (C + j)))) (hos : ∀ j, ∀ o ∈ f j, ∃ a : Nat, o = a ∧ a < C) (hol : ∀ j, (f j).length ≤ 65536)
    (hpr : ∀ code, code < C → ∀ i, walkF (dlt code) f C (Nf - 1) i * walkF (dlt code) (fun j => f (C + j)) C (Nc - 1) i ≤ 4611686018427387904) :
    ∀ (n j a : Nat) (m : M) (Ff Fc : Nat → Nat → Nat), SM m pf Nf C Ff → SM m pc Nc C Fc → (∀ i, i < pf → m[i]? = m0[i]?) → a ≤ 1099511627777 → j ≤ C → C < n + j →
      ∃ m', r73_L0 (rt (n0 + 4)) (n0 + 4) base kp kx n (sl p1 C) (sl p2 C) (sl pf Nf) (sl pc Nc) (vi a) (vi C) (vi j) m = kx (vi (outG f C (fun code => walkF (dlt code) f C (Nf - 1)) (fun code => walkF (dlt code) (fun j => f (C + j)) C (Nc - 1)) (C - j) j a)) m'
  | 0, j, a, m, Ff, Fc, _, _, _, ha, hj, hn => by omega
  | n + 1, j, a, m, Ff, Fc, hSf, hSc, ho, ha, hj, hn => by
    rw [r73_L0_s, lss_nat, k1s]
    by_cases hlt : j < C
    · have hout : outG f C (fun code => walkF (dlt code) f C (Nf - 1)) (fun code => walkF (dlt code) (fun j => f (C + j)) C (Nc - 1)) (C - j) j a = outG f C (fun code => walkF (dlt code) f C (Nf - 1)) (fun code => walkF (dlt code) (fun j => f (C + j)) C (Nc - 1)) (C - (j + 1)) (j + 1) (closG f C (fun code => walkF (dlt code) f C (Nf - 1)) (fun code => walkF (dlt code) (fun j => f (C + j)) C (Nc - 1)) j a) := by
        rw [show C - j = (C - (j + 1)) + 1 by omega]; rfl
      obtain ⟨⟨a1, a2⟩, ⟨b1, b2⟩⟩ := hl m ho j hlt
      have skip : ((f j).length = 0 ∨ (f (C + j)).length = 0) → ∃ m', (k1n (mbin E .add 3 (vi j) (.int .i64 1)) fun v74_20 => (r73_L0 (rt (n0 + 4)) (n0 + 4) base kp kx n (sl p1 C) (sl p2 C) (sl pf Nf) (sl pc Nc) (vi a) (vi C) v74_20 m)) = kx (vi (outG f C (fun code => walkF (dlt code) f C (Nf - 1)) (fun code => walkF (dlt code) (fun j => f (C + j)) C (Nc - 1)) (C - j) j a)) m' := fun h => by
        have hc : closG f C (fun code => walkF (dlt code) f C (Nf - 1)) (fun code => walkF (dlt code) (fun j => f (C + j)) C (Nc - 1)) j a = a := by
          unfold closG
          rw [if_pos h]
        rw [add1 j (by omega), k1s, hout, hc]
        exact loop73 n0 base hn0 kp kx hC hpf hfc hNf1 hNf hNc1 hNc hl hos hol hpr n (j + 1) a m Ff Fc hSf hSc ho ha (by omega) (by omega)
      rw [decide_eq_true hlt, kbt, ix103 _ _ _ _ hlt, k1s, a1, k1s, a2.len, k2s, show (.int .i64 0 : Value) = vi ((0 : Nat) : Int) from rfl, eqlN, k1s]
      by_cases h1 : (f j).length = 0
      · rw [decide_eq_true h1, kbt]
        exact skip (.inl h1)
      · rw [decide_eq_false h1, kbf, ix103 _ _ _ _ hlt, k1s, b1, k1s, b2.len, k2s, eqlN, k1s]
        by_cases h2 : (f (C + j)).length = 0
        · rw [decide_eq_true h2, kbt]
          exact skip (.inr h2)
        · obtain ⟨m1, F1, c1, c2, c3, c4, c5⟩ := t105 n0 base (m := m) (pl := p1) (ps := pf) (N := Nf) (C := C) (code := j) hpf (V := V) (f := f) hSf hlt (fun i hi m' h => (hl m' (fun q hq => (h q (.inl (by omega))).trans (ho q hq)) i hi).1) hos (fun j => by have := hol j; omega) (fun j => by have := hol j; omega) (by omega) (by omega) hNf1 (by omega) (by omega)
          have ho1 : ∀ i, i < pf → m1[i]? = m0[i]? := fun i hi => (c4 i (.inl (by omega))).trans (ho i hi)
          have hSc1 : SM m1 pc Nc C Fc := ⟨(c4 pc (.inr hfc)).trans hSc.hs, fun i hi => (c4 _ (.inr (by omega))).trans (hSc.hv i hi)⟩
          obtain ⟨m2, F2, d1, d2, d3, d4, d5⟩ := t105 n0 base (m := m1) (pl := p2) (ps := pc) (N := Nc) (C := C) (code := j) (by omega) (V := fun j => V (C + j)) (f := fun j => f (C + j)) hSc1 hlt (fun i hi m' h => (hl m' (fun q hq => (h q (.inl (by omega))).trans (ho1 q hq)) i hi).2) (fun j o h => hos _ o h) (fun j => by have := hol (C + j); omega) (fun j => by have := hol (C + j); omega) (by omega) (by omega) hNc1 (by omega) (by omega)
          have ho2 : ∀ i, i < pf → m2[i]? = m0[i]? := fun i hi => (d4 i (.inl (by omega))).trans (ho1 i hi)
          have hSf2 : SM m2 pf Nf C F1 := ⟨(d4 pf (.inl (by omega))).trans c2.hs, fun i hi => (d4 _ (.inl (by omega))).trans (c2.hv i hi)⟩
          have hVd : VecM m2 (pf + 1 + (Nf - 1)) C (walkF (dlt j) f C (Nf - 1)) := by
            have := hSf2.hv (Nf - 1) (by omega)
            rwa [c3] at this
          have hVu : VecM m2 (pc + 1 + (Nc - 1)) C (walkF (dlt j) (fun j => f (C + j)) C (Nc - 1)) := by
            have := d2.hv (Nc - 1) (by omega)
            rwa [d3] at this
          have hc : closG f C (fun code => walkF (dlt code) f C (Nf - 1)) (fun code => walkF (dlt code) (fun j => f (C + j)) C (Nc - 1)) j a = sumF (fun i => walkF (dlt j) f C (Nf - 1) i * walkF (dlt j) (fun j => f (C + j)) C (Nc - 1) i) C 0 a := by
            unfold closG
            rw [if_neg (by omega)]
          rw [decide_eq_false h2, kbf, c1, kcs, d1, kcs, len33, k2s, loop73b (n0 + 3) base _ _ _ _ _ _ _ _ hVd hVu (hpr j hlt) (by omega) (n0 + 4) 0 a ha (Nat.zero_le _) (by omega), Nat.sub_zero, ← hc, add1 j (by omega), k1s, hout]
          exact loop73 n0 base hn0 kp kx hC hpf hfc hNf1 hNf hNc1 hNc hl hos hol hpr n (j + 1) _ m2 F1 F2 hSf2 d2 ho2 (closG_le ha) (by omega) (by omega)
    · rw [decide_eq_false hlt, kbf, show C - j = 0 by omega]
      exact ⟨m, rfl⟩
end Go.AM
namespace Go.AM
open Go Go.Proofs
/-- How many closed boards of h rows the program counts. -/
def closF (w : Nat) (rs : List Rw) (h : Nat) : Nat := outG (linksF (8 ^ w) (ringL rs)) (8 ^ w) (fun code => walkF (dlt code) (linksF (8 ^ w) (ringL rs)) (8 ^ w) (h / 2)) (fun code => walkF (dlt code) (fun j => linksF (8 ^ w) (ringL rs) (8 ^ w + j)) (8 ^ w) (h - h / 2)) (8 ^ w) 0 0
/-- Products that do not overflow. -/
def smallP (w : Nat) (rs : List Rw) (h : Nat) : Prop := ∀ code, code < 8 ^ w → ∀ i, walkF (dlt code) (linksF (8 ^ w) (ringL rs)) (8 ^ w) (h / 2) i * walkF (dlt code) (fun j => linksF (8 ^ w) (ringL rs) (8 ^ w + j)) (8 ^ w) (h - h / 2) i ≤ 4611686018427387904
theorem t73 (n0 base w : Nat) (hw : w ≤ 4) (hn0 : 70000 ≤ n0) {m : M} {rs : List Rw} {rv : Value} (hR : RowsM m rv rs) (hrs : rs.length ≤ 65536) (hrn : ∀ r ∈ rs, goodN (8 ^ w) r.n ∧ goodN (8 ^ w) r.s) (h : Nat) (hh : h ≤ 50) (hpr : smallP w rs h) : rt (n0 + 5) base 73 [.agg #[vi w, rv], vi h] m = some (.ret (vi (closF w rs h)), m) := by
  have h8 : 8 ^ w ≤ 4096 := Nat.le_trans (Nat.pow_le_pow_right (by omega) hw) (by decide)
  have hsub : ∀ r ∈ ringL rs, r ∈ rs := fun r hr => (List.mem_filter.1 hr).1
  have hrl : (ringL rs).length ≤ 65536 := Nat.le_trans (List.length_filter_le _ _) hrs
  have hrn' : ∀ r ∈ ringL rs, goodN (8 ^ w) r.n ∧ goodN (8 ^ w) r.s := fun r hr => hrn r (hsub r hr)
  have hrv : (∃ p l, rv = sl p l) ∨ rv = nilS := by
    rcases hR with ⟨_, h⟩ | ⟨p, ex, h, _⟩
    · exact .inr h
    · exact .inl ⟨_, _, h⟩
  have key : ∃ m', r73 (rt (n0 + 4)) (n0 + 4) m.length (.agg #[vi w, rv]) (vi h) m = some (.ret (vi (closF w rs h)), m') := by
    unfold r73
    have hq0 : (m ++ [cellR [vi w, rv]])[m.length]? = some (cellR [vi w, rv]) := by simp
    have hk0 : Keeps m.length m (m ++ [cellR [vi w, rv]]) := Keeps.push _ _ (Nat.le_refl _) _
    obtain ⟨sv, m1, e1, R1, k1⟩ := t103 (n0 + 3) m.length w (m := m ++ [cellR [vi w, rv]]) (by simp) (hR.keeps hk0) (by omega) (by omega)
    have hq1 : m1[m.length]? = some (cellR [vi w, rv]) := (k1.2 _ (by simp)).trans hq0
    have hm1 : m.length + 1 ≤ m1.length := by have := k1.1; simp at this; omega
    obtain ⟨p1, p2, U, m2, c1, c2, c3⟩ := t96 (n0 + 3) m.length w hw (by omega) (m := m1) (by omega) R1 hrl (fun r hr => by
      obtain ⟨⟨a, h1, h2⟩, ⟨c, h3, h4⟩⟩ := hrn' r hr
      exact ⟨a, c, h1, h3, h2, h4⟩)
    have hq2 : m2[m.length]? = some (cellR [vi w, rv]) := (c2.2 _ (by omega)).trans hq1
    have hm2 := c2.1
    obtain ⟨m3, d1, d2, d3, d4⟩ := t104 (n0 + 2) m2.length w hw (by omega) (m := m2) (Nat.le_refl _) rv hrv (h / 2) (by omega)
    have kd : Keeps m2.length m2 m3 := ⟨by omega, d3⟩
    have hq3 : m3[m.length]? = some (cellR [vi w, rv]) := (d3 _ (by omega)).trans hq2
    obtain ⟨m4, f1, f2, f3, f4⟩ := t104 (n0 + 2) m3.length w hw (by omega) (m := m3) (Nat.le_refl _) rv hrv (h - h / 2) (by omega)
    have kf : Keeps m3.length m3 m4 := ⟨by omega, f3⟩
    have hgood := linkL_good (C := 8 ^ w) (ringL rs) (fun _ => []) hrn' (fun k s hs => by simp at hs)
    have hlen : ∀ k, (linksF (8 ^ w) (ringL rs) k).length ≤ 65536 := fun k => by
      have := linkL_len (ringL rs) (fun _ => []) 0 (fun r hr => (hrn' r hr).1) (fun i => by simp) k
      show (linkL (8 ^ w) (ringL rs) (fun _ => []) k).length ≤ _
      omega
    have d4' : SM m4 (m2.length + 1) (h / 2 + 1) (8 ^ w) (fun _ _ => 0) := ⟨(f3 _ (by omega)).trans d4.hs, fun i hi => (f3 _ (by omega)).trans (d4.hv i hi)⟩
    have hp1 := (List.getElem?_eq_some_iff.1 c3.h1).1
    have hp2 := (List.getElem?_eq_some_iff.1 c3.h2).1
    obtain ⟨m5, g⟩ := loop73 n0 m.length hn0 (fun v m => some (.pan v, m)) (fun y9_45 m => some (.ret y9_45, m)) (m0 := m4) (C := 8 ^ w) (p1 := p1) (p2 := p2) (pf := m2.length + 1) (pc := m3.length + 1) (Nf := h / 2 + 1) (Nc := h - h / 2 + 1) (V := U) (f := linksF (8 ^ w) (ringL rs)) (by omega) (by omega) (by omega) (by omega) (by omega) (by omega) (by omega) (fun mm ho j hj => by
      have up : ∀ {i : Nat} {row : Row}, m2[i]? = some row → mm[i]? = some row := fun {i row} hi => by
        have := (List.getElem?_eq_some_iff.1 hi).1
        rw [ho i (by omega), f3 i (by omega), d3 i this]
        exact hi
      have hints : ∀ k, k < 2 * 8 ^ w → Ints mm (U k) (linksF (8 ^ w) (ringL rs) k) := fun k hk => by
        refine Grow.ints (b := m1.length) ?_
        rcases c3.hU k hk with hh | ⟨r, g1, g2, g3, g4, g5⟩
        · exact .inl hh
        · exact .inr ⟨r, g1, g2, g3, up g4, g5⟩
      refine ⟨⟨?_, hints j (by omega)⟩, ⟨?_, hints _ (by omega)⟩⟩
      · rw [ld33]
        unfold mcell
        rw [up c3.h1]
        show ((List.range (8 ^ w)).map U)[j]? = _
        rw [List.getElem?_map, List.getElem?_range hj]; rfl
      · rw [ld33]
        unfold mcell
        rw [up c3.h2]
        show ((List.range (8 ^ w)).map fun j => U (8 ^ w + j))[j]? = _
        rw [List.getElem?_map, List.getElem?_range hj]; rfl) (fun j o ho => hgood _ o ho) hlen (fun code hc i => hpr code hc i) (n0 + 4) 0 0 m4 (fun _ _ => 0) (fun _ _ => 0) d4' f4 (fun _ _ => rfl) (by omega) (Nat.zero_le _) (by omega)
    rw [k1_fun, fVal_fun, vcall_fun, bxa2, k2s, ldb76 hq0, k1s, e1, kcs, c1, kcs, show mextract 0 (.tuple #[sl p1 (8 ^ w), sl p2 (8 ^ w)]) = some (sl p1 (8 ^ w)) by kernel_rfl, k1s, show mextract 1 (.tuple #[sl p1 (8 ^ w), sl p2 (8 ^ w)]) = some (sl p2 (8 ^ w)) by kernel_rfl, k1s, ldb76 hq2, k1s, i2, quoN h 2 (by omega) (by omega), k1s, d1, kB_keeps kd, kcs, ldb76 hq3, k1s, k1s, sub3, k1s, wr_id (by omega) (by omega), show (h : Int) - ((h / 2 : Nat) : Int) = ((h - h / 2 : Nat) : Int) by omega, f1, kB_keeps kf, kcs, len103, k2s, i0, g, Nat.sub_zero]
    exact ⟨m5, rfl⟩
  obtain ⟨m', hk⟩ := key
  exact rt_pure (f := 73) (rf := rf73) (by kernel_rfl) (by kernel_rfl) (by kernel_rfl) (n0 + 4) base _ m m' _ hk rfl
def clsR (l : List Wg) (w h : Int) : Value := if isTk l w h then limR (closF w.toNat (bandL l w.toNat) h.toNat) else .tuple #[vi 0, vi 2]
theorem t40 (n0 base : Nat) (hn0 : 70000 ≤ n0) {m : M} {v0 : Value} {l : List Wg} (hT : Tiles m v0 l) (w h : Int) (hpr : ∀ a c : Nat, w = a → h = c → isTk l w h = true → smallP a (bandL l a) c) : rt (n0 + 6) base 40 [v0, vi w, vi h] m = some (.ret (clsR l w h), m) := by
  have key : ∃ m1, r40 (rt (n0 + 5)) (n0 + 5) m.length v0 (vi w) (vi h) m = some (.ret (clsR l w h), m1) := by
    unfold r40 clsR
    rw [k1_fun, t59 (n0 + 3) _ (by omega) hT, kcs, not4, k1s]
    cases htk : isTk l w h with
    | false => exact ⟨m, rfl⟩
    | true =>
      obtain ⟨hS, a, c, rfl, rfl, ha1, ha4, hc1, hc4⟩ := tk_facts htk
      obtain ⟨_, hl16, hcol⟩ := isS_facts hS
      obtain ⟨rv, m1, e1, k1, hR, hrl⟩ := t61 (n0 + 2) m.length a (Nat.le_refl _) hT hl16 (by omega) ha4
      have h16 : 16 ^ a ≤ 65536 := Nat.le_trans (Nat.pow_le_pow_right (by omega) ha4) (by decide)
      obtain ⟨x, y, hxy⟩ := limR_two (closF a (bandL l a) c)
      rw [Bool.not_true, kbf, e1, kcs, t73 n0 m.length a ha4 hn0 hR (by omega) (band_good hcol ha4) c (by omega) (hpr a c rfl rfl htk), kcs, t68 (n0 + 4), kcs, if_pos rfl, Int.toNat_natCast, Int.toNat_natCast, hxy, ex20, k1s, ex21, k1s]
      exact ⟨m1, rfl⟩
  obtain ⟨m1, h'⟩ := key
  refine rt_pure (f := 40) (rf := rf40) (by kernel_rfl) (by kernel_rfl) (by kernel_rfl) (n0 + 5) base _ m m1 _ h' ?_
  unfold clsR
  split
  · obtain ⟨x, y, hxy⟩ := limR_two (closF w.toNat (bandL l w.toNat) h.toNat)
    rw [hxy]; rfl
  · rfl
end Go.AM
namespace Go.AM
open Go Go.Proofs
theorem sum_zero {α : Type} (f : α → Nat) : ∀ (xs : List α), (∀ x ∈ xs, f x = 0) → (xs.map f).sum = 0
  | [], _ => rfl
  | x :: xs, h => by
    rw [List.map_cons, List.sum_cons, h x (by simp), sum_zero f xs fun y hy => h y (by simp [hy])]
theorem sum_add {α : Type} (f g : α → Nat) : ∀ (xs : List α), (xs.map fun x => f x + g x).sum = (xs.map f).sum + (xs.map g).sum
  | [] => rfl
  | x :: xs => by
    simp only [List.map_cons, List.sum_cons]
    rw [sum_add f g xs]
    omega
theorem sum_swap {α β : Type} (F : α → β → Nat) : ∀ (xs : List α) (ys : List β), (xs.map fun x => (ys.map fun y => F x y).sum).sum = (ys.map fun y => (xs.map fun x => F x y).sum).sum
  | [], ys => by
    simp only [List.map_nil, List.sum_nil]
    exact (sum_zero _ ys fun _ _ => rfl).symm
  | x :: xs, ys => by
    simp only [List.map_cons, List.sum_cons]
    rw [sum_swap F xs ys, ← sum_add]
theorem sum_sumN {α : Type} (g : α → Nat → Nat) (xs : List α) : ∀ (k j : Nat), (xs.map fun x => sumN (g x) k j).sum = sumN (fun i => (xs.map fun x => g x i).sum) k j
  | 0, _ => sum_zero _ xs fun _ _ => rfl
  | k + 1, j => by
    show (xs.map fun x => g x j + sumN (g x) k (j + 1)).sum = (xs.map fun x => g x j).sum + sumN _ k (j + 1)
    rw [sum_add, sum_sumN g xs k (j + 1)]
theorem sum_mul {α : Type} (f : α → Nat) (c : Nat) : ∀ (xs : List α), (xs.map fun x => f x * c).sum = (xs.map f).sum * c
  | [] => by simp
  | x :: xs => by
    simp only [List.map_cons, List.sum_cons]
    rw [sum_mul f c xs, Nat.add_mul]
theorem sum_filter_le {α : Type} (f : α → Nat) (p : α → Bool) : ∀ (xs : List α), ((xs.filter p).map f).sum ≤ (xs.map f).sum
  | [] => Nat.le_refl _
  | x :: xs => by
    have ih := sum_filter_le f p xs
    rw [List.filter_cons]
    split
    · simp only [List.map_cons, List.sum_cons]; omega
    · simp only [List.map_cons, List.sum_cons]; omega
theorem sum_le_len {α : Type} (f : α → Nat) (c : Nat) : ∀ (xs : List α), (∀ x ∈ xs, f x ≤ c) → (xs.map f).sum ≤ xs.length * c
  | [], _ => by simp
  | x :: xs, h => by
    simp only [List.map_cons, List.sum_cons, List.length_cons]
    have h1 := h x (by simp)
    have h2 := sum_le_len f c xs fun y hy => h y (by simp [hy])
    rw [Nat.add_mul]
    omega
theorem sumN_le {g g' : Nat → Nat} : ∀ (k j : Nat), (∀ i, j ≤ i → i < j + k → g i ≤ g' i) → sumN g k j ≤ sumN g' k j
  | 0, _, _ => Nat.le_refl _
  | k + 1, j, h => by
    show g j + sumN g k (j + 1) ≤ g' j + sumN g' k (j + 1)
    have h1 := h j (Nat.le_refl _) (by omega)
    have h2 := sumN_le k (j + 1) fun i a b => h i (by omega) (by omega)
    omega
/-- How many chains of k rows lead from Norths i to Souths c. -/
def pB (rr : List Rw) : Nat → Nat → Nat → Nat
  | 0, i, c => if i = c then 1 else 0
  | k + 1, i, c => (rr.map fun r => if r.n.toNat = i then pB rr k r.s.toNat c else 0).sum
theorem pB_succ (rr : List Rw) (k i c : Nat) : pB rr (k + 1) i c = (rr.map fun r => if r.n.toNat = i then pB rr k r.s.toNat c else 0).sum := rfl
theorem if_sum {α : Type} (p : Prop) [Decidable p] (f : α → Nat) (xs : List α) : (if p then (xs.map f).sum else 0) = (xs.map fun x => if p then f x else 0).sum := by
  by_cases h : p
  · simp only [if_pos h]
  · simp only [if_neg h]
    exact (sum_zero _ xs fun _ _ => rfl).symm
theorem pB_last (rr : List Rw) : ∀ (k i c : Nat), pB rr (k + 1) i c = (rr.map fun r => if r.s.toNat = c then pB rr k i r.n.toNat else 0).sum
  | 0, i, c => by
    rw [pB_succ]
    congr 1
    refine List.map_congr_left fun r _ => ?_
    show (if r.n.toNat = i then (if r.s.toNat = c then 1 else 0) else 0) = if r.s.toNat = c then (if i = r.n.toNat then 1 else 0) else 0
    by_cases e1 : r.n.toNat = i
    · simp [e1]
    · simp [e1, Ne.symm e1]
  | k + 1, i, c => by
    rw [pB_succ]
    have h1 : (rr.map fun r => if r.n.toNat = i then pB rr (k + 1) r.s.toNat c else 0) = rr.map fun r => (rr.map fun r' => if r.n.toNat = i then (if r'.s.toNat = c then pB rr k r.s.toNat r'.n.toNat else 0) else 0).sum :=
      List.map_congr_left fun r _ => by rw [pB_last rr k, if_sum]
    rw [h1, sum_swap]
    congr 1
    refine List.map_congr_left fun r' _ => ?_
    rw [pB_succ, if_sum]
    congr 1
    refine List.map_congr_left fun r _ => ?_
    by_cases e1 : r.n.toNat = i <;> by_cases e2 : r'.s.toNat = c <;> simp [e1, e2]
theorem pB_add {C : Nat} {rr : List Rw} (hs : ∀ r ∈ rr, r.s.toNat < C) (b c : Nat) : ∀ (a i : Nat), i < C → pB rr (a + b) i c = sumN (fun m => pB rr a i m * pB rr b m c) C 0
  | 0, i, hi => by
    rw [Nat.zero_add, sumN_congr (g' := fun m => if i = m then pB rr b i c else 0) C 0 fun m _ _ => by
      show (if i = m then 1 else 0) * pB rr b m c = _
      by_cases e : i = m
      · subst e; simp
      · simp [e], sumN_one, if_pos (by omega)]
  | a + 1, i, hi => by
    rw [show a + 1 + b = (a + b) + 1 by omega, pB_succ]
    have h1 : (rr.map fun r => if r.n.toNat = i then pB rr (a + b) r.s.toNat c else 0) = rr.map fun r => sumN (fun m => (if r.n.toNat = i then pB rr a r.s.toNat m else 0) * pB rr b m c) C 0 :=
      List.map_congr_left fun r hr => by
        by_cases e : r.n.toNat = i
        · simp only [if_pos e]
          exact pB_add hs b c a r.s.toNat (hs r hr)
        · simp only [if_neg e, Nat.zero_mul]
          exact (sumN_zero C 0).symm
    rw [h1, sum_sumN]
    refine sumN_congr C 0 fun m _ _ => ?_
    rw [sum_mul]
    rfl
theorem swap_gen {C : Nat} (N : Nat → Nat) (f g : Rw → Nat) (i : Nat) : ∀ (rs : List Rw), (∀ r ∈ rs, f r < C) → sumN (fun c => N c * rs.countP fun r => decide (f r = c ∧ g r = i)) C 0 = (rs.map fun r => if g r = i then N (f r) else 0).sum
  | [], _ => by
    rw [sumN_congr (g' := fun _ => 0) C 0 fun c _ _ => by simp, sumN_zero]
    rfl
  | r :: rs, h => by
    have h1 := h r (by simp)
    rw [List.map_cons, List.sum_cons, ← swap_gen N f g i rs fun x hx => h x (by simp [hx])]
    have : sumN (fun c => N c * (r :: rs).countP fun r => decide (f r = c ∧ g r = i)) C 0 = sumN (fun c => (if f r = c then (if g r = i then N (f r) else 0) else 0) + N c * rs.countP fun r => decide (f r = c ∧ g r = i)) C 0 := by
      refine sumN_congr C 0 fun c _ _ => ?_
      rw [List.countP_cons, Nat.mul_add, Nat.add_comm]
      congr 1
      by_cases e : f r = c
      · by_cases e2 : g r = i
        · simp [e, e2]
        · simp [e, e2]
      · simp [e]
    rw [this, sumN_add, sumN_one, if_pos (by omega)]
theorem linkL_cnt2 {C : Nat} (i : Nat) {c : Nat} (hc : c < C) : ∀ (rs : List Rw) (f : Nat → List Int), (∀ r ∈ rs, goodN C r.n ∧ goodN C r.s) → cntI (linkL C rs f c) i = cntI (f c) i + rs.countP fun r => decide (r.n.toNat = c ∧ r.s.toNat = i)
  | [], f, _ => by simp [linkL]
  | r :: rs, f, h => by
    show cntI (linkL C rs (linkR C f r) c) i = _
    rw [linkL_cnt2 i hc rs (linkR C f r) fun x hx => h x (by simp [hx]), List.countP_cons]
    have hx : linkR C f r c = if r.n.toNat = c then f c ++ [r.s] else f c := by
      unfold linkR updF
      by_cases e : r.n.toNat = c
      · simp only [e, if_true]
        rw [if_neg (by omega)]
      · rw [if_neg (by omega), if_neg (Ne.symm e), if_neg e]
    rw [hx]
    by_cases e : r.n.toNat = c
    · rw [if_pos e]
      have : cntI (f c ++ [r.s]) i = cntI (f c) i + if r.s.toNat = i then 1 else 0 := by
        unfold cntI
        rw [List.countP_append]
        congr 1
        by_cases e2 : r.s.toNat = i <;> simp [e2]
      rw [this]
      by_cases e2 : r.s.toNat = i
      · simp [e, e2]; omega
      · simp [e2]
    · rw [if_neg e]
      simp [e]
theorem nlt {C : Nat} {rs : List Rw} (hrn : ∀ r ∈ rs, goodN C r.n ∧ goodN C r.s) : ∀ r ∈ rs, r.n.toNat < C ∧ r.s.toNat < C := fun r hr => by
  obtain ⟨⟨a, ea, ha⟩, ⟨c, ec, hc⟩⟩ := hrn r hr
  rw [ea, ec, Int.toNat_natCast, Int.toNat_natCast]
  exact ⟨ha, hc⟩
theorem walkU {C : Nat} {rr : List Rw} (hrn : ∀ r ∈ rr, goodN C r.n ∧ goodN C r.s) (code : Nat) : ∀ (k i : Nat), i < C → walkF (dlt code) (fun j => linksF C rr (C + j)) C k i = min (pB rr k i code) MX
  | 0, i, h => by
    show (if i = code then 1 else 0) = min (if i = code then 1 else 0) MX
    have hM : MX = 1099511627777 := rfl
    split <;> omega
  | k + 1, i, h => by
    show folL (walkF (dlt code) (fun j => linksF C rr (C + j)) C k) (fun j => linksF C rr (C + j)) C 0 (fun _ => 0) i = _
    rw [folL_sum _ _ _ _ (fun _ => by omega), Nat.zero_add, sumN_cut (b := fun c => pB rr k c code) C 0 fun c _ hc => walkU hrn code k c (by omega)]
    congr 1
    rw [pB_succ, ← swap_gen (fun c => pB rr k c code) (fun r => r.s.toNat) (fun r => r.n.toNat) i rr fun r hr => (nlt hrn r hr).2]
    refine sumN_congr C 0 fun c _ _ => ?_
    have := linkL_cnt i (c := c) rr (fun _ => []) hrn
    show pB rr k c code * cntI (linkL C rr (fun _ => []) (C + c)) i = _
    rw [this]
    simp [cntI]
theorem walkD {C : Nat} {rr : List Rw} (hrn : ∀ r ∈ rr, goodN C r.n ∧ goodN C r.s) (code : Nat) : ∀ (k i : Nat), i < C → walkF (dlt code) (linksF C rr) C k i = min (pB rr k code i) MX
  | 0, i, h => by
    show (if i = code then 1 else 0) = min (if code = i then 1 else 0) MX
    have hM : MX = 1099511627777 := rfl
    by_cases e : i = code
    · rw [if_pos e, if_pos e.symm]; omega
    · rw [if_neg e, if_neg (Ne.symm e)]; omega
  | k + 1, i, h => by
    show folL (walkF (dlt code) (linksF C rr) C k) (linksF C rr) C 0 (fun _ => 0) i = _
    rw [folL_sum _ _ _ _ (fun _ => by omega), Nat.zero_add, sumN_cut (b := fun c => pB rr k code c) C 0 fun c _ hc => walkD hrn code k c (by omega)]
    congr 1
    rw [pB_last, ← swap_gen (fun c => pB rr k code c) (fun r => r.n.toNat) (fun r => r.s.toNat) i rr fun r hr => (nlt hrn r hr).1]
    refine sumN_congr C 0 fun c _ hc => ?_
    have := linkL_cnt2 i (c := c) (C := C) (by omega) rr (fun _ => []) hrn
    show pB rr k code c * cntI (linkL C rr (fun _ => []) c) i = _
    rw [this]
    simp [cntI]
/-- How many closed boards of h rows there are. -/
def closN (C : Nat) (rr : List Rw) (h : Nat) : Nat := sumN (fun c => pB rr h c c) C 0
theorem pB_none1 {rr : List Rw} {k i c : Nat} (h : ∀ r ∈ rr, r.n.toNat ≠ i) : pB rr (k + 1) i c = 0 := by
  rw [pB_succ]
  exact sum_zero _ rr fun r hr => if_neg (h r hr)
theorem pB_none2 {rr : List Rw} {k i c : Nat} (h : ∀ r ∈ rr, r.s.toNat ≠ c) : pB rr (k + 1) i c = 0 := by
  rw [pB_last]
  exact sum_zero _ rr fun r hr => if_neg (h r hr)
theorem outG_sum {f : Nat → List Int} {C : Nat} {D U : Nat → Nat → Nat} {P : Nat → Nat} (h : ∀ code a, code < C → a ≤ MX → closG f C D U code a = min (a + P code) MX) : ∀ (n j a : Nat), j + n ≤ C → a ≤ MX → outG f C D U n j a = min (a + sumN P n j) MX
  | 0, j, a, _, ha => by
    show a = min (a + 0) MX
    omega
  | n + 1, j, a, hj, ha => by
    show outG f C D U n (j + 1) (closG f C D U j a) = min (a + (P j + sumN P n (j + 1))) MX
    rw [h j a (by omega) ha, outG_sum h n (j + 1) _ (by omega) (by omega)]
    omega
theorem closF_eq {w : Nat} {rs : List Rw} (hrn : ∀ r ∈ rs, goodN (8 ^ w) r.n ∧ goodN (8 ^ w) r.s) {h : Nat} (h1 : 1 ≤ h) (hb : ∀ k i c, k ≤ (h + 1) / 2 → pB (ringL rs) k i c ≤ 2147483648) : smallP w rs h ∧ closF w rs h = min (closN (8 ^ w) (ringL rs) h) MX := by
  have hrn' : ∀ r ∈ ringL rs, goodN (8 ^ w) r.n ∧ goodN (8 ^ w) r.s := fun r hr => hrn r (List.mem_filter.1 hr).1
  have hM : MX = 1099511627777 := rfl
  have hD : ∀ code i, i < 8 ^ w → walkF (dlt code) (linksF (8 ^ w) (ringL rs)) (8 ^ w) (h / 2) i = pB (ringL rs) (h / 2) code i := fun code i hi => by
    have := hb (h / 2) code i (by omega)
    rw [walkD hrn' code _ i hi]
    omega
  have hU : ∀ code i, i < 8 ^ w → walkF (dlt code) (fun j => linksF (8 ^ w) (ringL rs) (8 ^ w + j)) (8 ^ w) (h - h / 2) i = pB (ringL rs) (h - h / 2) i code := fun code i hi => by
    have := hb (h - h / 2) i code (by omega)
    rw [walkU hrn' code _ i hi]
    omega
  have hout : ∀ code, code < 8 ^ w → ∀ i, ¬ i < 8 ^ w → walkF (dlt code) (linksF (8 ^ w) (ringL rs)) (8 ^ w) (h / 2) i = 0 := fun code hc i hi => by
    cases hk : h / 2 with
    | zero =>
      show (if i = code then 1 else 0) = 0
      rw [if_neg (by omega)]
    | succ k =>
      by_cases e : walkF (dlt code) (linksF (8 ^ w) (ringL rs)) (8 ^ w) (k + 1) i = 0
      · exact e
      · obtain h2 | ⟨c, _, _, _, o, ho, h3⟩ := (folL_ne (8 ^ w) 0 (fun _ => 0) i).1 e
        · exact absurd rfl h2
        · obtain ⟨a, ea, ha⟩ := linkL_good (C := 8 ^ w) (ringL rs) (fun _ => []) hrn' (fun k s hs => by simp at hs) c o ho
          rw [ea, Int.toNat_natCast] at h3
          omega
  have hmul : ∀ a b : Nat, a ≤ 2147483648 → b ≤ 2147483648 → a * b ≤ 4611686018427387904 := fun a b ha hb => Nat.le_trans (Nat.mul_le_mul ha hb) (by decide)
  refine ⟨fun code hc i => ?_, ?_⟩
  · by_cases hi : i < 8 ^ w
    · rw [hD code i hi, hU code i hi]
      exact hmul _ _ (hb _ _ _ (by omega)) (hb _ _ _ (by omega))
    · rw [hout code hc i hi, Nat.zero_mul]
      omega
  · unfold closF closN
    have hs : ∀ r ∈ ringL rs, r.s.toNat < 8 ^ w := fun r hr => (nlt hrn' r hr).2
    rw [outG_sum (P := fun c => pB (ringL rs) h c c) (fun code a hc ha => ?_) (8 ^ w) 0 0 (by omega) (by omega), Nat.zero_add]
    obtain ⟨k, hk⟩ : ∃ k, h = k + 1 := ⟨h - 1, by omega⟩
    unfold closG
    by_cases hcond : (linksF (8 ^ w) (ringL rs) code).length = 0 ∨ (linksF (8 ^ w) (ringL rs) (8 ^ w + code)).length = 0
    · rw [if_pos hcond]
      have hz : pB (ringL rs) h code code = 0 := by
        rw [hk]
        rcases hcond with hc0 | hc0
        · refine pB_none1 fun r hr e => ?_
          have hm : r.s ∈ linksF (8 ^ w) (ringL rs) code := mem_linkL.2 (.inr ⟨r, hr, .inl ⟨e.symm, rfl⟩⟩)
          rw [List.length_eq_zero_iff.1 hc0] at hm
          simp at hm
        · refine pB_none2 fun r hr e => ?_
          have hm : r.n ∈ linksF (8 ^ w) (ringL rs) (8 ^ w + code) := mem_linkL.2 (.inr ⟨r, hr, .inr ⟨by omega, rfl⟩⟩)
          rw [List.length_eq_zero_iff.1 hc0] at hm
          simp at hm
      rw [hz]
      omega
    · rw [if_neg hcond, sumF_sum _ _ _ _ ha]
      congr 2
      rw [show pB (ringL rs) h code code = pB (ringL rs) (h / 2 + (h - h / 2)) code code by rw [show h / 2 + (h - h / 2) = h by omega], pB_add hs _ _ _ _ hc]
      exact sumN_congr (8 ^ w) 0 fun m _ hm => by
        have a1 := hD code m (by omega)
        have a2 := hU code m (by omega)
        simp only [a1, a2]
end Go.AM
