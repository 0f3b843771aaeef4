import Derived.Test.YtlpnjinofohnoaaH3
set_option linter.unusedVariables false
set_option linter.unusedSimpArgs false
/- matrix.Determinant. -/
namespace Go.AM
open Go Go.Proofs
open Go.AM.Det (Mx)
structure Det66 (call : CallF) : Prop where
  piv : ∀ {b : Nat} {m : M} {o : Nat} {ps : List Nat} {N : Nat} {A : Mx}, MatO b m o ps N A → N ≤ 100 → ∀ {k : Nat}, k < N → ∀ base, call base 82 [sl o N, vi k] m = some (.ret (match Det.piv (sh k A) (N - k) with
      | some r => vi ((k + r : Nat) : Int)
      | none => vi (-1)), m)
  el : ∀ {base b : Nat}, base ≤ b → ∀ {m : M} {o : Nat} {ps : List Nat} {N : Nat} {A : Mx}, MatO b m o ps N A → N ≤ 100 → ∀ {k : Nat}, k < N → ∀ {q : Int}, q ≠ 0 →
    ∃ m', call base 83 [sl o N, vi k, vi q, .agg fn3.toArray] m = some (.ret (.tuple #[]), m') ∧ MatO b m' o ps N (elim A k q (k + 1)) ∧ FrameP ps m m'
  ops : Ops call

noncomputable def k66r : Value → M → Res2 := fun y2 m => some (.ret y2, m)
noncomputable def k66x (call : CallF) (base : Nat) : Value → Value → Value → M → Res2 := fun y3 y4 y5 m =>
  kb y5 (k1n (mfieldAddr E.P 104 y3 1) fun v52 => k1n (xload E.P m 94 v52) fun v53 => kc (kv call base v53 [(.int .i64 0), y4] m) (fun v55 m => some (.ret v55, m)) (fun v m => some (.pan v, m))) (some (.ret y4, m))

theorem ld104 {m : M} {w : Nat} (h : m[w]? = some (cellR fn3)) : xload E.P m 104 (pt w 0) = some (.agg fn3.toArray) := by
  have e : xload E.P m 104 (pt w 0) = (xread m w 0 3).map fun cs => .agg cs.toArray := by kernel_rfl
  rw [e, xread_eq]
  unfold mread
  rw [h]
  rfl
theorem stepW_sh (A : Mx) (k : Nat) (q : Int) (i j : Nat) : Det.stepW wr (sh k A) q i j = sv A k q (k + i + 1) (k + j + 1) := rfl

theorem loop66 (call : CallF) (hd : Det66 call) (fuel base b : Nat) (hbb : base ≤ b) {o : Nat} {N : Nat} (hN : N ≤ 100) {w : Nat} (hwo : w ≠ o) : ∀ (n k : Nat) (m : M) (ps : List Nat) (A : Mx) (q : Int) (f : Bool), k ≤ N → N < n + k →
    MatO b m o ps N A → q ≠ 0 → m[w]? = some (cellR fn3) → w ∉ ps →
    ∃ m', r66_L0 call fuel base (fun v m => some (.pan v, m)) k66r (k66x call base) n (sl o N) (pt w 0) (vi q) (.bool f) (vi N) (vi k) m = some (.ret (vi (Det.barF wr (N - k) (sh k A) q f)), m')
  | 0, k, m, ps, A, q, f, hk, hn, _, _, _, _ => by omega
  | n + 1, k, m, ps, A, q, f, hk, hn, h, hq, hw, hwp => by
    rw [r66_L0_s]
    simp only [lss_nat, k1n]
    by_cases hlt : k < N
    · rw [decide_eq_true hlt]
      simp only [kb]
      rw [hd.piv h hN hlt base]
      simp only [kc]
      obtain ⟨d, hdd⟩ : ∃ d, N - k = d + 1 := ⟨N - k - 1, by omega⟩
      have hd2 : N - (k + 1) = d := by omega
      rw [hdd]
      unfold Det.barF
      have hwl := (List.getElem?_eq_some_iff.1 hw).1
      cases hpv : Det.piv (sh k A) (d + 1) with
      | none =>
        have e : mbin E .lss 3 (vi (-1)) (.int .i64 0) = some (.bool true) := rfl
        simp only [e]
        exact ⟨m, rfl⟩
      | some r =>
        simp only
        obtain ⟨hr, hrz⟩ := Det.piv_some hpv
        have e : mbin E .lss 3 (vi ((k + r : Nat) : Int)) (.int .i64 0) = some (.bool false) := by
          have e1 : mbin E .lss 3 (vi ((k + r : Nat) : Int)) (.int .i64 0) = some (.bool (decide (((k + r : Nat) : Int) < 0))) := rfl
          rw [e1, decide_eq_false (by omega)]
        simp only [e, neqv]
        by_cases hr0 : r = 0
        · subst hr0
          have e2 : (k + 0 != k) = false := by simp
          rw [e2]
          simp only
          rw [ld104 hw]
          simp only
          obtain ⟨m1, c1, h1, f1⟩ := hd.el hbb h hN hlt hq
          rw [c1]
          simp only
          obtain ⟨p, hp, hpb, hl, ex, hrow⟩ := h1.row hlt
          rw [ix56 o N N k hlt]
          simp only
          rw [hl]
          simp only
          rw [ix29 p N N k hlt]
          simp only
          rw [rdI hrow hlt]
          simp only
          rw [add1 k (by omega)]
          simp only
          have ek : elim A k q (k + 1) k k = A k k := by
            unfold elim
            rw [if_neg (by omega)]
          rw [ek]
          have hkk : A k k ≠ 0 := hrz
          obtain ⟨m', q1⟩ := loop66 call hd fuel base b hbb hN hwo n (k + 1) m1 ps (elim A k q (k + 1)) (A k k) f (by omega) (by omega) h1 hkk ((f1.2 w hwl hwp).trans hw) hwp
          refine ⟨m', q1.trans ?_⟩
          rw [hd2, Det.swapped_zero]
          simp only [if_true]
          have e3 : sh k A 0 0 = A k k := rfl
          rw [e3]
          refine congrArg (fun x => some (Ret.ret (vi x), m')) ?_
          refine Det.barF_congr wr d _ _ _ _ fun i j hi hj => ?_
          rw [stepW_sh]
          unfold sh elim
          rw [if_pos (by omega)]
          have e4 : k + 1 + i = k + i + 1 := by omega
          have e5 : k + 1 + j = k + j + 1 := by omega
          rw [e4, e5]
        · have e2 : (k + r != k) = true := by simp; omega
          rw [e2]
          simp only
          have hkr : k + r < N := by omega
          obtain ⟨p, hp, hpb, hl, ex, hrow⟩ := h.row hlt
          obtain ⟨p', hp', hpb', hl', ex', hrow'⟩ := h.row hkr
          rw [ix56 o N N (k + r) hkr, ix56 o N N k hlt]
          simp only
          rw [hl, hl']
          simp only
          obtain ⟨ma, mb, s1, s2, h2, f2, hsub⟩ := h.swap (base := base) hbb hlt hkr (by omega) hp hp'
          rw [s1]
          simp only [ks]
          rw [s2]
          have en : mun .not (.bool f) = some (.bool (!f)) := rfl
          simp only [en]
          have hw2 : mb[w]? = some (cellR fn3) := (f2 w hwo).trans hw
          have hwp2 : w ∉ (ps.set k p').set (k + r) p := fun hm => hwp (hsub w hm)
          have hwl2 := (List.getElem?_eq_some_iff.1 hw2).1
          rw [ld104 hw2]
          simp only
          obtain ⟨m1, c1, h1, f1⟩ := hd.el hbb h2 hN hlt hq
          rw [c1]
          simp only
          obtain ⟨p3, hp3, hpb3, hl3, ex3, hrow3⟩ := h1.row hlt
          rw [hl3]
          simp only
          rw [ix29 p3 N N k hlt]
          simp only
          rw [rdI hrow3 hlt]
          simp only
          rw [add1 k (by omega)]
          simp only
          have ek : elim (fun a c => A (Det.sw2 k (k + r) a) c) k q (k + 1) k k = A (k + r) k := by
            unfold elim
            rw [if_neg (by omega)]
            show A (Det.sw2 k (k + r) k) k = _
            simp [Det.sw2]
          rw [ek]
          have hkk : A (k + r) k ≠ 0 := hrz
          obtain ⟨m', q1⟩ := loop66 call hd fuel base b hbb hN hwo n (k + 1) m1 _ (elim (fun a c => A (Det.sw2 k (k + r) a) c) k q (k + 1)) (A (k + r) k) (!f) (by omega) (by omega) h1 hkk ((f1.2 w hwl2 hwp2).trans hw2) hwp2
          refine ⟨m', q1.trans ?_⟩
          rw [hd2, if_neg hr0]
          have e3 : Det.swapped (sh k A) r 0 0 = A (k + r) k := by
            unfold Det.swapped Det.sw2 sh
            rw [if_pos rfl]
            rfl
          rw [e3]
          refine congrArg (fun x => some (Ret.ret (vi x), m')) ?_
          have hsw : Det.swapped (sh k A) r = sh k fun a c => A (Det.sw2 k (k + r) a) c := by
            funext i j
            have e9 : k + Det.sw2 0 r i = Det.sw2 k (k + r) (k + i) := by
              unfold Det.sw2
              grind
            show A (k + Det.sw2 0 r i) (k + j) = A (Det.sw2 k (k + r) (k + i)) (k + j)
            rw [e9]
          rw [hsw]
          refine Det.barF_congr wr d _ _ _ _ fun i j hi hj => ?_
          rw [stepW_sh]
          unfold sh elim
          rw [if_pos (by omega)]
          have e4 : k + 1 + i = k + i + 1 := by omega
          have e5 : k + 1 + j = k + j + 1 := by omega
          rw [e4, e5]
    · rw [decide_eq_false hlt]
      simp only [kb]
      have hd0 : N - k = 0 := by omega
      rw [hd0]
      unfold Det.barF k66x
      cases f with
      | false => exact ⟨m, rfl⟩
      | true =>
        simp only [kb, fd1, k1n]
        rw [ldf hw 1 _ rfl]
        simp only [kv, List.nil_append, List.append_nil]
        have z : (.int .i64 0 : Value) = vi 0 := rfl
        rw [z, hd.ops.sub]
        exact ⟨m, rfl⟩

theorem tail66 (call : CallF) (hd : Det66 call) (fuel base b : Nat) (hbb : base ≤ b) {m : M} {o : Nat} {ps : List Nat} {N : Nat} {A : Mx} (h : MatO b m o ps N A) (hN : N ≤ 100) (hf : 200 ≤ fuel) (hb : base ≤ m.length) :
    ∃ m', (k2 (xalloc E.P m 104) fun v3 m => ks (xstore E.P base m 104 v3 (.agg fn3.toArray)) fun m => k2 (vcalln E.P base m .len [56] [sl o N]) fun v10 m => r66_L0 call fuel base (fun v m => some (.pan v, m)) k66r (k66x call base) fuel (sl o N) v3 (vi 1) (.bool false) v10 (vi 0) m) = some (.ret (vi (Det.barF wr N A 1 false)), m') := by
  have e1 : xalloc E.P m 104 = xlen m fun n => xpush m (cellR [.nilFunc, .nilFunc, .nilFunc]) fun m' => some (pt n 0, m') := by kernel_rfl
  have e2 : ∀ m1 r, xstore E.P base m1 104 (pt r 0) (.agg fn3.toArray) = xwrite base m1 r 0 fn3 := fun m1 r => by kernel_rfl
  rw [e1, xlen_eq, fNat_eq, xpush_eq, fList_eq]
  simp only [k2]
  rw [e2, xwrite_eq]
  have e3 : mwrite base (m ++ [cellR [.nilFunc, .nilFunc, .nilFunc]]) m.length 0 fn3 = some (m ++ [cellR fn3]) := by
    unfold mwrite
    rw [if_neg (by omega)]
    simp [cellR, splice, fList_eq, Value.oneCell']
  rw [e3]
  simp only [ks]
  rw [len56]
  simp only
  have hwo : m.length ≠ o := fun e => by
    obtain ⟨ex, ho⟩ := h.orow
    have := (List.getElem?_eq_some_iff.1 ho).1
    omega
  have hwp : m.length ∉ ps := fun hm => by have := h.lt _ hm; omega
  obtain ⟨m', q⟩ := loop66 call hd fuel base b hbb hN hwo fuel 0 (m ++ [cellR fn3]) ps A 1 false (by omega) (by omega) (h.push _) (by omega) (by simp) hwp
  refine ⟨m', ?_⟩
  have e4 : sh 0 A = A := by
    funext i j
    unfold sh
    rw [Nat.zero_add, Nat.zero_add]
  rw [e4] at q
  exact q
theorem spec66 (call : CallF) (hd : Det66 call) (fuel base b : Nat) (hbb : base ≤ b) {m : M} {o : Nat} {ps : List Nat} {N : Nat} {A : Mx} (h : MatO b m o ps N A) (hN : N ≤ 100) (hf : 200 ≤ fuel)
    (h81 : ∀ m, base ≤ m.length → call base 81 [] m = some (.ret (.agg fn3.toArray), m ++ [cellR fn3])) (hb : base ≤ m.length) :
    ∃ m', r66 call fuel base (sl o N) m = some (.ret (vi (Det.barF wr N A 1 false)), m') := by
  unfold r66
  rw [h81 m hb, k1_fun, vcall_fun, fVal_fun]
  simp only [kc]
  exact tail66 call hd fuel base b hbb (h.push (cellR fn3)) hN hf (by simp; omega)
theorem spec66nil (call : CallF) (fuel base : Nat) {m : M} (hf : 200 ≤ fuel) (h81 : ∀ m, base ≤ m.length → call base 81 [] m = some (.ret (.agg fn3.toArray), m ++ [cellR fn3])) (hb : base ≤ m.length) :
    ∃ m', r66 call fuel base (.slice none 0 0) m = some (.ret (vi 1), m') := by
  unfold r66
  rw [h81 m hb, k1_fun, vcall_fun, fVal_fun]
  simp only [kc]
  generalize hm : m ++ [cellR fn3] = mm
  have hb2 : base ≤ mm.length := by rw [← hm]; simp; omega
  have e1 : xalloc E.P mm 104 = xlen mm fun n => xpush mm (cellR [.nilFunc, .nilFunc, .nilFunc]) fun m' => some (pt n 0, m') := by kernel_rfl
  have e2 : ∀ m1 r, xstore E.P base m1 104 (pt r 0) (.agg fn3.toArray) = xwrite base m1 r 0 fn3 := fun m1 r => by kernel_rfl
  rw [e1, xlen_eq, fNat_eq, xpush_eq, fList_eq]
  simp only [k2]
  rw [e2, xwrite_eq]
  have e3 : mwrite base (mm ++ [cellR [.nilFunc, .nilFunc, .nilFunc]]) mm.length 0 fn3 = some (mm ++ [cellR fn3]) := by
    unfold mwrite
    rw [if_neg (by omega)]
    simp [cellR, splice, fList_eq, Value.oneCell']
  rw [e3]
  simp only [ks]
  have el : ∀ m, vcalln E.P base m .len [56] [.slice none 0 0] = some (vi 0, m) := fun m => by kernel_rfl
  rw [el]
  obtain ⟨k, rfl⟩ : ∃ k, fuel = k + 1 := ⟨fuel - 1, by omega⟩
  simp only
  rw [r66_L0_s]
  exact ⟨mm ++ [cellR fn3], rfl⟩
end Go.AM
