import Derived.KernelRfl
import Derived.Laws.Runes
import Derived.Laws.StructEq
import Derived.Test.YtdneekidlmgpfaaRows
import Derived.WalkKit
import Derived.Test.YtdneekidlmgpfaaAmModel
import Derived.Test.YtdneekidlmgpfaaAmOps5
import Derived.Test.YtdneekidlmgpfaaAmOps6
import Derived.Test.YtdneekidlmgpfaaAmCode
import Derived.Test.YtdneekidlmgpfaaAmDraw5
import Derived.Test.YtdneekidlmgpfaaAmEq
import Derived.Test.YtdneekidlmgpfaaRBase
import Derived.Test.YtdneekidlmgpfaaR33
import Derived.Test.YtdneekidlmgpfaaR50
import Derived.Test.YtdneekidlmgpfaaR83
import Derived.Test.YtdneekidlmgpfaaR90
import Derived.Test.YtdneekidlmgpfaaR107
import Derived.Test.YtdneekidlmgpfaaS32
import Derived.Test.YtdneekidlmgpfaaDet1
import Derived.Test.YtdneekidlmgpfaaH1
import Derived.Test.YtdneekidlmgpfaaS15
set_option linter.unusedVariables false
set_option linter.unusedSimpArgs false
set_option linter.unusedSectionVars false
namespace Go.AM
open Go Go.Proofs
theorem cutR_len : ∀ (n : Nat) (w h x y : Int) (acc : List Sq) (b : Bool) (out : List Sq), acc.length ≤ 16 → cutR n w h x y acc = some (b, out) → out.length ≤ 16
  | 0, w, h, x, y, acc, b, out, hl, hc => by simp [cutR] at hc
  | n + 1, w, h, x, y, acc, b, out, hl, hc => by
    unfold cutR at hc
    cases hgo : (decide (w > 0) && decide (h > 0)) with
    | false =>
      rw [hgo] at hc
      simp only [Option.some.injEq, Prod.mk.injEq] at hc
      rw [← hc.2]
      exact hl
    | true =>
      rw [hgo] at hc
      simp only at hc
      by_cases hf : acc.length = 16
      · rw [if_pos hf] at hc
        simp only [Option.some.injEq, Prod.mk.injEq] at hc
        rw [← hc.2]
        simp
      · rw [if_neg hf] at hc
        have hl2 : ∀ q : Sq, (acc ++ [q]).length ≤ 16 := fun q => by simp; omega
        cases hw : decide (w > h) with
        | true => rw [hw] at hc; exact cutR_len n _ _ _ _ _ _ _ (hl2 _) hc
        | false => rw [hw] at hc; exact cutR_len n _ _ _ _ _ _ _ (hl2 _) hc
theorem cutAns_len {n : Nat} {w h : Int} {e : Int} {out : List Sq} (ha : cutAns n w h = some (e, out)) : out.length ≤ 16 := by
  unfold cutAns at ha
  cases hr : rectB w h with
  | false => rw [hr] at ha; simp only [Option.some.injEq, Prod.mk.injEq] at ha; rw [← ha.2]; simp
  | true =>
    rw [hr] at ha
    simp only at ha
    cases hR : cutR n w h 0 0 [] with
    | none => rw [hR] at ha; simp at ha
    | some r =>
      obtain ⟨b, o⟩ := r
      rw [hR] at ha
      cases b with
      | true => simp only [Option.some.injEq, Prod.mk.injEq] at ha; rw [← ha.2]; simp
      | false =>
        simp only [Option.some.injEq, Prod.mk.injEq] at ha
        rw [← ha.2]
        exact cutR_len n w h 0 0 [] _ _ (by simp) hR
theorem spec32 (call : CallF) (fuel base : Nat) (m : M) (acc : List Sq) (s1 s2 : Value) (b1 b2 : Nat) (h1 : SqIs b1 m s1 acc) (h2 : SqIs b2 m s2 acc) (hl : acc.length ≤ 16) (hf : 17 ≤ fuel) :
    r32 call fuel base s1 s2 m = some (.ret (.bool true), m) := by
  unfold r32
  rw [k1_fun, vcall_fun, fVal_fun, len43 base m b1 s1 acc h1]
  simp only [k2]
  rw [len43 base m b2 s2 acc h2]
  have e : mbin E .neq 3 (.int .i64 (acc.length : Int)) (.int .i64 (acc.length : Int)) = some (.bool ((acc.length : Int) != acc.length)) := rfl
  simp only [k1n, e]
  have e2 : ((acc.length : Int) != acc.length) = false := by simp
  rw [e2]
  simp only [kb]
  rcases h1 with ⟨rfl, rfl⟩ | ⟨ha, r1, _, rfl, q1⟩
  · rcases h2 with ⟨_, rfl⟩ | ⟨hb, _⟩
    · obtain ⟨k, rfl⟩ : ∃ k, fuel = k + 1 := ⟨fuel - 1, by omega⟩
      exact (L32_succ call _ base k _ _ _ _ 0 m).trans (by kernel_rfl)
    · simp at hb
  · rcases h2 with ⟨hb, _⟩ | ⟨_, r2, _, rfl, q2⟩
    · rw [hb] at ha; simp at ha
    · exact loop32 call fuel base _ _ m acc r1 r2 (by omega) q1 q2 fuel 0 (by omega) (by omega)
noncomputable def scs : List (Nat × SC) := [(15, sc15), (74, sc74), (75, sc75), (79, sc79)]
theorem scs_ok : ∀ p ∈ scs, SCok E p := fun p hp => by
  simp only [scs, List.mem_cons, List.not_mem_nil, or_false] at hp
  rcases hp with rfl | rfl | rfl | rfl
  · exact sc15_ok
  · exact sc74_ok
  · exact sc75_ok
  · exact sc79_ok
noncomputable def rt (n : Nat) : CallF := scallN scs E.pure tab n
theorem rt_sound (n : Nat) : SoundCall E (rt n) := scallN_sound E_good E_mix _ tab_ok scs_ok n
theorem rt_imp {f : FuncId} {rf : RF} (hs : sfind f scs = none) (hf : rfind f tab = some rf) (hp : E.pure f = false) (n base : Nat) (args : List Value) (m : M) : rt (n + 1) base f args m = rf (rt n) n base args m := by
  show scallN scs E.pure tab (n + 1) base f args m = _
  unfold scallN
  simp only [scall, hs, hf, hp]
  rfl
theorem rt_pure {f : FuncId} {rf : RF} (hs : sfind f scs = none) (hf : rfind f tab = some rf) (hp : E.pure f = true) (n base : Nat) (args : List Value) (m m1 : M) (v : Value) (h : rf (rt n) n m.length args m = some (.ret v, m1)) (hv : vflat v = true) : rt (n + 1) base f args m = some (.ret v, m) := by
  show scallN scs E.pure tab (n + 1) base f args m = _
  unfold scallN
  simp only [scall, hs, hf, hp, xlen_eq, fNat_eq]
  have h' : rf (scallN scs E.pure tab n) n m.length args m = some (.ret v, m1) := h
  rw [h']
  simp only [hv]
theorem rt15 (n base : Nat) (m : M) : rt (n + 1) base 15 [] m = some (.ret (.bool true), m) := by
  show scallN scs E.pure tab (n + 1) base 15 [] m = _
  unfold scallN
  have : scall scs 15 [] m = some (.bool true) := by kernel_rfl
  rw [this]
theorem rt52 (n base : Nat) (w h : Int) (m : M) : rt (n + 1) base 52 [vi w, vi h] m = some (.ret (.bool (rectB w h)), m) :=
  rt_pure (f := 52) (rf := rf52) (by kernel_rfl) (by kernel_rfl) (by kernel_rfl) n base _ m m _ (spec52 (rt n) n m.length w h m) rfl
theorem rt54 (n base : Nat) (w h : Int) (m : M) : rt (n + 1) base 54 [vi w, vi h] m = some (.ret (.bool (rectB w h)), m) :=
  rt_pure (f := 54) (rf := rf54) (by kernel_rfl) (by kernel_rfl) (by kernel_rfl) n base _ m m _ (spec54 (rt n) n m.length w h m) rfl
end Go.AM
namespace Go.AM
open Go Go.Proofs
open Go.AM.Det (Mx sumN sumA)
def MatV (m : M) (v : Value) (N : Nat) (A : Mx) : Prop := (N = 0 ∧ v = nilS) ∨ ∃ b o ps, v = sl o N ∧ MatO b m o ps N A
theorem MatV.keep {m m' : M} {v : Value} {N : Nat} {A : Mx} (h : MatV m v N A) (hk : Keeps m.length m m') : MatV m' v N A := by
  rcases h with h | ⟨b, o, ps, h1, h2⟩
  · exact .inl h
  · exact .inr ⟨b, o, ps, h1, h2.keep (hk.2 o h2.lto) fun p hp => hk.2 p (h2.lt p hp)⟩
/-- Determinants that stay small. -/
structure Small (N : Nat) (A : Mx) : Prop where
  n7 : N ≤ 7
  row : ∀ i, i < N → sumA N (fun j => (A i j).natAbs) ≤ 32
theorem Small.minor {N : Nat} {A : Mx} (h : Small (N + 1) A) (j : Nat) : Small N (Det.minor A j) := by
  refine ⟨by have := h.n7; omega, fun i hi => ?_⟩
  refine Nat.le_trans (Det.sumA_inj (N + 1) N (fun k => (A (i + 1) k).natAbs) (Det.sk j) (fun k hk => Det.sk_lt hk) (fun a b _ _ e => ?_)) (h.row (i + 1) (by omega))
  unfold Det.sk at e
  grind
theorem Small.det {N : Nat} {A : Mx} (h : Small N A) : (Det.det N A).natAbs ≤ 32 ^ N := Det.det_low 32 N A h.row
theorem sumA_mono (f : Nat → Nat) : ∀ (n j : Nat), j ≤ n → sumA j f ≤ sumA n f
  | 0, j, h => by
    have : j = 0 := by omega
    rw [this]
    exact Nat.le_refl _
  | n + 1, j, h => by
    by_cases e : j = n + 1
    · rw [e]
      exact Nat.le_refl _
    · exact Nat.le_trans (sumA_mono f n j (by omega)) (Nat.le_add_right _ _)
/-- The sum on the way. -/
theorem Small.way {N : Nat} {A : Mx} (h : Small (N + 1) A) (j : Nat) (hj : j ≤ N + 1) : (sumN j fun j => Det.sg j * A 0 j * Det.det N (Det.minor A j)).natAbs ≤ 32 ^ (N + 1) := by
  refine Nat.le_trans (Det.natAbs_sumN _ _) ?_
  refine Nat.le_trans (Det.sumA_le _ (g := fun j => (A 0 j).natAbs * 32 ^ N) fun j _ => ?_) ?_
  · simp only [Int.natAbs_mul, Det.natAbs_sg, Nat.one_mul]
    exact Nat.mul_le_mul_left _ (h.minor j).det
  · rw [Det.sumA_mul, Nat.pow_succ, Nat.mul_comm]
    refine Nat.mul_le_mul_left _ ?_
    exact Nat.le_trans (sumA_mono (fun j => (A 0 j).natAbs) (N + 1) j hj) (h.row 0 (by omega))
theorem Small.entry {N : Nat} {A : Mx} (h : Small N A) {i j : Nat} (hi : i < N) (hj : j < N) : (A i j).natAbs ≤ 32 := by
  have h1 := h.row i hi
  have h2 := Det.sumA_out N j hj fun j => (A i j).natAbs
  omega
theorem mulw (x y : Int) : mbin E .mul 3 (vi x) (vi y) = some (vi (wr (x * y))) := rfl
theorem addw (x y : Int) : mbin E .add 3 (vi x) (vi y) = some (vi (wr (x + y))) := rfl
end Go.AM
namespace Go.AM
open Go Go.Proofs
open Go.AM.Det (Mx)
theorem rt90 (n base : Nat) (a b : Int) (m : M) : rt (n + 1) base 90 [vi a, vi b] m = some (.ret (vi (wr (a * b))), m) :=
  rt_pure (f := 90) (rf := rf90) (by kernel_rfl) (by kernel_rfl) (by kernel_rfl) n base _ m m _ (by
    show r90 (rt n) n m.length (vi a) (vi b) m = _
    unfold r90
    rw [k1_fun, fVal_fun]
    rfl) rfl
theorem rt91 (n base : Nat) (a b : Int) (m : M) : rt (n + 1) base 91 [vi a, vi b] m = some (.ret (vi (wr (a - b))), m) :=
  rt_pure (f := 91) (rf := rf91) (by kernel_rfl) (by kernel_rfl) (by kernel_rfl) n base _ m m _ (by
    show r91 (rt n) n m.length (vi a) (vi b) m = _
    unfold r91
    rw [k1_fun, fVal_fun]
    rfl) rfl
theorem rt92 (n base : Nat) (a b : Int) (m : M) (hb : b ≠ 0) : rt (n + 1) base 92 [vi a, vi b] m = some (.ret (vi (wr (Int.tdiv a b))), m) :=
  rt_pure (f := 92) (rf := rf92) (by kernel_rfl) (by kernel_rfl) (by kernel_rfl) n base _ m m _ (by
    show r92 (rt n) n m.length (vi a) (vi b) m = _
    unfold r92
    rw [k1_fun, fVal_fun]
    have e : mbin E .quo 3 (vi a) (vi b) = if b = 0 then none else some (vi (wr (Int.tdiv a b))) := by kernel_rfl
    rw [e, if_neg hb]
    rfl) rfl
theorem rtOps (n : Nat) : Ops (rt (n + 1)) := ⟨fun base a b m => rt90 n base a b m, fun base a b m => rt91 n base a b m, fun base a b m hb => rt92 n base a b m hb⟩
theorem rtDet (n : Nat) (hn : 200 ≤ n) : Det66 (rt (n + 2)) where
  piv := by
    intro b m o ps N A h hN k hk base
    refine (rt_imp (f := 82) (rf := rf82) (by kernel_rfl) (by kernel_rfl) (by kernel_rfl) (n + 1) base _ m).trans ?_
    exact spec82 (rt (n + 1)) (n + 1) base b h hN hk (by omega)
  el := by
    intro base b hbb m o ps N A h hN k hk q hq
    obtain ⟨m', q1, q2, q3⟩ := spec83 (rt (n + 1)) (rtOps n) (n + 1) base b hbb h hN (by omega) hk hq
    refine ⟨m', ?_, q2, q3⟩
    refine (rt_imp (f := 83) (rf := rf83) (by kernel_rfl) (by kernel_rfl) (by kernel_rfl) (n + 1) base _ m).trans ?_
    exact q1
  ops := rtOps (n + 1)
theorem rt81 (n base : Nat) (m : M) (hb : base ≤ m.length) : rt (n + 1) base 81 [] m = some (.ret (.agg fn3.toArray), m ++ [cellR fn3]) := by
  refine (rt_imp (f := 81) (rf := rf81) (by kernel_rfl) (by kernel_rfl) (by kernel_rfl) n base _ m).trans ?_
  show r81 (rt n) n base m = _
  unfold r81
  rw [k1_fun, fVal_fun]
  have e1 : xalloc E.P m 104 = xlen m fun n => xpush m (cellR [.nilFunc, .nilFunc, .nilFunc]) fun m' => some (pt n 0, m') := by kernel_rfl
  have e2 : ∀ m1 r, xstore E.P base m1 104 (pt r 0) (.agg fn3.toArray) = xwrite base m1 r 0 fn3 := fun m1 r => by kernel_rfl
  have e4 : mbuild E.P 104 [(0, (.func (.func 90) #[] #[])), (1, (.func (.func 91) #[] #[])), (2, (.func (.func 92) #[] #[]))] = some (.agg fn3.toArray) := by kernel_rfl
  have e3 : mwrite base (m ++ [cellR [.nilFunc, .nilFunc, .nilFunc]]) m.length 0 fn3 = some (m ++ [cellR fn3]) := by
    unfold mwrite
    rw [if_neg (by omega)]
    simp [cellR, splice, fList_eq, Value.oneCell']
  rw [e1, xlen_eq, fNat_eq, xpush_eq, fList_eq, e4]
  simp only [k2, k1n]
  rw [e2, xwrite_eq, e3]
  simp only [ks]
  have e5 : mload E.P (m ++ [cellR fn3]) 104 (pt m.length 0) = some (.agg fn3.toArray) := by
    rw [← xload_eq]
    exact ld104 (by simp)
  rw [e5]
  rfl
theorem rt66 (n base b : Nat) (hn : 200 ≤ n) (hbb : base ≤ b) {m : M} {o : Nat} {ps : List Nat} {N : Nat} {A : Mx} (h : MatO b m o ps N A) (hN : N ≤ 100) (hb : base ≤ m.length) : ∃ m', rt (n + 3) base 66 [sl o N] m = some (.ret (vi (Det.barF wr N A 1 false)), m') := by
  obtain ⟨m', q⟩ := spec66 (rt (n + 2)) (rtDet n hn) (n + 2) base b hbb h hN (by omega) (fun m hm => rt81 (n + 1) base m hm) hb
  exact ⟨m', (rt_imp (f := 66) (rf := rf66) (by kernel_rfl) (by kernel_rfl) (by kernel_rfl) (n + 2) base _ m).trans q⟩
theorem rt66nil (n base : Nat) (hn : 200 ≤ n) {m : M} (hb : base ≤ m.length) : ∃ m', rt (n + 3) base 66 [nilS] m = some (.ret (vi 1), m') := by
  obtain ⟨m', q⟩ := spec66nil (rt (n + 2)) (n + 2) base (m := m) (by omega) (fun m hm => rt81 (n + 1) base m hm) hb
  exact ⟨m', (rt_imp (f := 66) (rf := rf66) (by kernel_rfl) (by kernel_rfl) (by kernel_rfl) (n + 2) base _ m).trans q⟩
theorem rt84 (n base : Nat) (hn : 200 ≤ n) {po : Nat} {l : List Nat} {ex : Bool} (hl : l.length ≤ 100) (m : M) (i : Nat) (h : m[po]? = some (row1 ex (outs l))) : rt (n + 2) base 84 [sl po l.length, vi i] m = some (.ret (.bool (l.contains i)), m) := by
  refine rt_pure (f := 84) (rf := rf84) (by kernel_rfl) (by kernel_rfl) (by kernel_rfl) (n + 1) base _ m m _ ?_ rfl
  show r84 (rt (n + 1)) (n + 1) m.length (sl po l.length) (vi i) m = _
  unfold r84
  rw [k1_fun, fVal_fun]
  have hi : ∀ v, r93 (rt n) n m.length (sl po l.length) (vi i) m = some (.ret v, m) → vflat v = true → rt (n + 1) m.length 93 [sl po l.length, vi i] m = some (.ret v, m) := fun v hv hf =>
    rt_pure (f := 93) (rf := rf93) (by kernel_rfl) (by kernel_rfl) (by kernel_rfl) n m.length _ m m _ hv hf
  rcases spec93 (rt n) n m.length hl h i hn with ⟨h1, k, h2⟩ | ⟨h1, h2⟩
  · rw [hi _ h2 rfl]
    have e : mbin E .geq 3 (vi (k : Int)) (.int .i64 0) = some (.bool (decide ((k : Int) ≥ 0))) := rfl
    simp only [kc, e, k1n]
    rw [decide_eq_true (by omega)]
    have : l.contains i = true := by simpa using h1
    rw [this]
  · rw [hi _ h2 rfl]
    have e : mbin E .geq 3 (vi (-1)) (.int .i64 0) = some (.bool false) := rfl
    simp only [kc, e, k1n]
    have : l.contains i = false := by simpa using h1
    rw [this]
theorem bs29two (m : M) (a b : Int) : xbuildSlice E.P m 29 2 [(0, vi a), (1, vi b)] = some (sl m.length 2, m ++ [row1 true [vi a, vi b]]) := by
  have : xbuildSlice E.P m 29 2 [(0, vi a), (1, vi b)] = xlen m fun n => xpush m (row1 true [vi a, vi b]) fun m' => some (sl n 2, m') := by kernel_rfl
  rw [this, xlen_eq, fNat_eq, xpush_eq, fList_eq]
/-- The Laplacian matrix without some rows and columns, and its determinant, as trees and merged make them. -/
theorem cutDet (n base : Nat) (hn : 200 ≤ n) {m : M} (hb : base ≤ m.length) {po : Nat} {l : List Nat} {ex : Bool} (hl : l.length ≤ 100) (ho : m[po]? = some (row1 ex (outs l))) {b o N : Nat} {ps : List Nat} {ws : List Wn} (hN : N ≤ 90) (hM : MatO b m o ps N (lapW ws)) (hws : ws.length ≤ 16) (hne : ∀ w ∈ ws, w.1 ≠ w.2) (hK : (keepL l N).length ≤ 7) :
    ∃ v m1 m2, rt (n + 3) base 67 [sl o N, sl po l.length] m = some (.ret v, m1) ∧ rt (n + 3) base 66 [v] m1 = some (.ret (vi (Det.det (keepL l N).length (kept l N (lap ws)))), m2) := by
  obtain ⟨v, m1, q1, q2, q3⟩ := spec67 (rt (n + 2)) (n + 2) base hb hN (by omega) (fun m i h => rt84 n base hn hl m i h) ho hM
  have q1' : rt (n + 3) base 67 [sl o N, sl po l.length] m = some (.ret v, m1) := (rt_imp (f := 67) (rf := rf67) (by kernel_rfl) (by kernel_rfl) (by kernel_rfl) (n + 2) base _ m).trans q1
  rw [lapW_eq hne (by omega)] at q3
  rcases q3 with ⟨h0, rfl⟩ | ⟨o', ps', rfl, h⟩
  · obtain ⟨m2, r⟩ := rt66nil n base hn (m := m1) (Nat.le_trans hb q2.1)
    refine ⟨_, m1, m2, q1', ?_⟩
    rw [h0]
    exact r
  · obtain ⟨m2, r⟩ := rt66 n base m.length hn hb h (by omega) (Nat.le_trans hb q2.1)
    rw [bar_kept l N hK hws] at r
    exact ⟨_, m1, m2, q1', r⟩
theorem rt43 (n base : Nat) (hn : 200 ≤ n) (m : M) {xw : Value} {ws : List Wn} {N : Nat} (hN : N ≤ 8) (hN0 : 1 ≤ N) (hw : WS m.length m xw (ws.map wi)) (hws : ws.length ≤ 16) (hr : ∀ w ∈ ws, w.1 < N ∧ w.2 < N) (hne : ∀ w ∈ ws, w.1 ≠ w.2) :
    rt (n + 4) base 43 [vi N, xw] m = some (.ret (vi (Det.det (keepL [0] N).length (kept [0] N (lap ws)))), m) := by
  have hK : (keepL [0] N).length ≤ 7 := by
    rw [keepL_one 0 N (by omega)]
    simp
    omega
  obtain ⟨o, ps, m1, a1, a2⟩ := spec68 (rt (n + 2)) (n + 2) m.length (m := m) (Nat.le_refl _) (N := N) (by omega) (by omega) (by omega) hr hw
  have a1' : rt (n + 3) m.length 68 [vi N, xw] m = some (.ret (sl o N), m1) := (rt_imp (f := 68) (rf := rf68) (by kernel_rfl) (by kernel_rfl) (by kernel_rfl) (n + 2) m.length _ m).trans a1
  have hlen : m.length ≤ m1.length := by
    have := a2.ob
    have := a2.lto
    omega
  obtain ⟨v, m2, m3, c1, c2⟩ := cutDet n m.length hn (m := m1 ++ [row1 true (outs [0])]) (by simp; omega) (po := m1.length) (l := [0]) (ex := true) (by simp) (by simp) (by omega) (a2.push _) hws hne hK
  refine rt_pure (f := 43) (rf := rf43) (by kernel_rfl) (by kernel_rfl) (by kernel_rfl) (n + 3) base _ m m3 _ ?_ rfl
  show r43 (rt (n + 3)) (n + 3) m.length (vi N) xw m = _
  unfold r43
  rw [a1', fVal_fun]
  simp only [kc]
  have e0 : xbuildSlice E.P m1 29 1 [(0, (.int .i64 0))] = some (sl m1.length 1, m1 ++ [row1 true (outs [0])]) := bs29 m1 0
  rw [e0]
  simp only [k2]
  have c1' : rt (n + 3) m.length 67 [sl o N, sl m1.length 1] (m1 ++ [row1 true (outs [0])]) = some (.ret v, m2) := c1
  rw [c1']
  simp only
  rw [c2]
theorem rt46 (n base : Nat) (hn : 200 ≤ n) (m : M) {xw : Value} {ws : List Wn} {N s t : Nat} (hN : N ≤ 8) (hw : WS m.length m xw (ws.map wi)) (hws : ws.length ≤ 16) (hr : ∀ w ∈ ws, w.1 < N ∧ w.2 < N) (hne : ∀ w ∈ ws, w.1 ≠ w.2) (hK : (keepL [s, t] N).length ≤ 7) :
    rt (n + 4) base 46 [vi N, xw, vi s, vi t] m = some (.ret (vi (Det.det (keepL [s, t] N).length (kept [s, t] N (lap ws)))), m) := by
  obtain ⟨o, ps, m1, a1, a2⟩ := spec68 (rt (n + 2)) (n + 2) m.length (m := m) (Nat.le_refl _) (N := N) (by omega) (by omega) (by omega) hr hw
  have a1' : rt (n + 3) m.length 68 [vi N, xw] m = some (.ret (sl o N), m1) := (rt_imp (f := 68) (rf := rf68) (by kernel_rfl) (by kernel_rfl) (by kernel_rfl) (n + 2) m.length _ m).trans a1
  have hlen : m.length ≤ m1.length := by
    have := a2.ob
    have := a2.lto
    omega
  obtain ⟨v, m2, m3, c1, c2⟩ := cutDet n m.length hn (m := m1 ++ [row1 true (outs [s, t])]) (by simp; omega) (po := m1.length) (l := [s, t]) (ex := true) (by simp) (by simp) (by omega) (a2.push _) hws hne hK
  refine rt_pure (f := 46) (rf := rf46) (by kernel_rfl) (by kernel_rfl) (by kernel_rfl) (n + 3) base _ m m3 _ ?_ rfl
  show r46 (rt (n + 3)) (n + 3) m.length (vi N) xw (vi s) (vi t) m = _
  unfold r46
  rw [a1', fVal_fun]
  simp only [kc]
  have e0 : xbuildSlice E.P m1 29 2 [(0, vi s), (1, vi t)] = some (sl m1.length 2, m1 ++ [row1 true (outs [s, t])]) := bs29two m1 s t
  rw [e0]
  simp only [k2]
  have c1' : rt (n + 3) m.length 67 [sl o N, sl m1.length 2] (m1 ++ [row1 true (outs [s, t])]) = some (.ret v, m2) := c1
  rw [c1']
  simp only
  rw [c2]
end Go.AM
namespace Go.AM
open Go Go.Proofs
open Go.AM.Det (Mx)
theorem leqI (a b : Int) : mbin E .leq 3 (vi a) (vi b) = some (.bool (decide (a ≤ b))) := rfl
theorem lssI (a b : Int) : mbin E .lss 3 (vi a) (vi b) = some (.bool (decide (a < b))) := rfl
theorem gtrI (a b : Int) : mbin E .gtr 3 (vi a) (vi b) = some (.bool (decide (a > b))) := rfl
theorem neqI (a b : Int) : mbin E .neq 3 (vi a) (vi b) = some (.bool (a != b)) := rfl
theorem vi_def (n : Int) : (.int .i64 n : Value) = vi n := rfl
def areTwoB (n a b : Int) : Bool := decide (0 ≤ a) && (decide (a < n) && (decide (0 ≤ b) && (decide (b < n) && (a != b))))
theorem spec65 (call : CallF) (fuel base : Nat) (n a b : Int) (m : M) : r65 call fuel base (vi n) (vi a) (vi b) m = some (.ret (.bool (areTwoB n a b)), m) := by
  unfold r65
  rw [k1_fun, fVal_fun]
  simp only [vi_def, leqI, lssI, neqI, k1n]
  unfold areTwoB
  cases decide (0 ≤ a) <;> cases decide (a < n) <;> cases decide (0 ≤ b) <;> cases decide (b < n) <;> rfl
theorem rt65 (k base : Nat) (n a b : Int) (m : M) : rt (k + 1) base 65 [vi n, vi a, vi b] m = some (.ret (.bool (areTwoB n a b)), m) :=
  rt_pure (f := 65) (rf := rf65) (by kernel_rfl) (by kernel_rfl) (by kernel_rfl) k base _ m m _ (spec65 (rt k) k m.length n a b m) rfl
theorem loop42 (call : CallF) (fuel base b : Nat) (hbb : base ≤ b) (kp kr : Value → M → Res2) (kx : M → Res2) {xw : Value} {ws : List Wi} (hl : ws.length ≤ 100) (n0 : Int) (h65 : ∀ a b m, call base 65 [vi n0, vi a, vi b] m = some (.ret (.bool (areTwoB n0 a b)), m)) : ∀ (n k : Nat) (m : M), k ≤ ws.length → ws.length < n + k → b ≤ m.length → WS b m xw ws →
    ∃ m', r42_L0 call fuel base kp kr kx n (vi n0) xw (vi ws.length) (vi k) m = match (ws.drop k).all fun w => areTwoB n0 w.1 w.2 with
      | true => kx m'
      | false => kr (vi 2) m'
  | 0, k, m, hk, hn, _, _ => by omega
  | n + 1, k, m, hk, hn, hb, hw => by
    rw [r42_L0_s]
    simp only [lss_nat, k1n]
    by_cases hlt : k < ws.length
    · rw [decide_eq_true hlt]
      simp only [kb]
      obtain ⟨pw, i1, i2, _, _⟩ := hw.at hlt
      rw [i1]
      simp only
      rw [i2]
      simp only
      obtain ⟨m1, a1, a2⟩ := alw base m (Nat.le_trans hbb hb) ws[k]
      rw [a1]
      simp only [k2]
      rw [a2]
      simp only [ks, fw0, fw1]
      have g : (m ++ [cellR [vi ws[k].1, vi ws[k].2]])[m.length]? = some (cellR [vi ws[k].1, vi ws[k].2]) := by simp
      rw [rdc g (0 + 0) _ rfl, rdc g (0 + 1) _ rfl]
      simp only
      rw [h65]
      have en : ∀ b, mun .not (.bool b) = some (.bool (!b)) := fun b => rfl
      simp only [kc, en]
      rw [List.drop_eq_getElem_cons hlt, List.all_cons]
      cases ht : areTwoB n0 ws[k].1 ws[k].2 with
      | false => exact ⟨_, rfl⟩
      | true =>
        simp only [Bool.not_true, Bool.true_and]
        rw [add1 k (by omega)]
        simp only
        exact loop42 call fuel base b hbb kp kr kx hl n0 h65 n (k + 1) _ (by omega) (by omega) (by simp; omega) (hw.keep ((Keeps.push m _).le hb))
    · rw [decide_eq_false hlt]
      have : ws.drop k = [] := List.drop_of_length_le (by omega)
      rw [this]
      exact ⟨m, rfl⟩
def goodC (n : Int) (ws : List Wi) : Int := match decide (n < 2) with
  | true => 2
  | false => match decide (n > 8) with
    | true => 2
    | false => match decide ((ws.length : Int) > 16) with
      | true => 3
      | false => match ws.all fun w => areTwoB n w.1 w.2 with
        | true => 0
        | false => 2
set_option maxRecDepth 100000 in
theorem spec42 (call : CallF) (fuel base : Nat) {m : M} (hb : base ≤ m.length) {xw : Value} {ws : List Wi} (n : Int) (hw : WS m.length m xw ws) (hf : 200 ≤ fuel) (h65 : ∀ a b m, call base 65 [vi n, vi a, vi b] m = some (.ret (.bool (areTwoB n a b)), m)) :
    ∃ m', r42 call fuel base (vi n) xw m = some (.ret (vi (goodC n ws)), m') := by
  unfold r42 goodC
  rw [k1_fun, vcall_fun, fVal_fun]
  simp only [vi_def, lssI, gtrI, k1n]
  cases decide (n < 2) with
  | true => exact ⟨m, rfl⟩
  | false =>
    simp only [kb]
    cases decide (n > 8) with
    | true => exact ⟨m, rfl⟩
    | false =>
      have mp : mpick (.bool false) (.bool true) (.bool false) = some (.bool false) := rfl
      simp only [k0, mp]
      rw [hw.len]
      simp only [k2, gtrI]
      by_cases hlen : (ws.length : Int) > 16
      · rw [decide_eq_true hlen]
        exact ⟨m, rfl⟩
      · rw [decide_eq_false hlen]
        simp only
        rw [hw.len]
        simp only
        obtain ⟨m', q⟩ := loop42 call fuel base m.length hb (fun v m => some (.pan v, m)) (fun y4 m => some (.ret y4, m)) (fun m => some (.ret (vi 0), m)) (by omega) n h65 fuel 0 m (by omega) (by omega) (Nat.le_refl _) hw
        rw [List.drop_zero] at q
        refine ⟨m', q.trans ?_⟩
        cases ws.all fun w => areTwoB n w.1 w.2 <;> rfl
theorem rt42 (k base : Nat) (hk : 200 ≤ k) (n : Int) {xw : Value} {ws : List Wi} (m : M) (hw : WS m.length m xw ws) : rt (k + 2) base 42 [vi n, xw] m = some (.ret (vi (goodC n ws)), m) := by
  obtain ⟨m', q⟩ := spec42 (rt (k + 1)) (k + 1) m.length (Nat.le_refl _) n hw (by omega) (fun a b m => rt65 k _ n a b m)
  exact rt_pure (f := 42) (rf := rf42) (by kernel_rfl) (by kernel_rfl) (by kernel_rfl) (k + 1) base _ m m' _ q rfl
def endsC (n : Int) (ws : List Wi) (s t : Int) : Int := match goodC n ws == 0 with
  | true => match areTwoB n s t with
    | true => 0
    | false => 2
  | false => goodC n ws
theorem rt45 (k base : Nat) (hk : 200 ≤ k) (n s t : Int) {xw : Value} {ws : List Wi} (m : M) (hw : WS m.length m xw ws) : rt (k + 3) base 45 [vi n, xw, vi s, vi t] m = some (.ret (vi (endsC n ws s t)), m) := by
  refine rt_pure (f := 45) (rf := rf45) (by kernel_rfl) (by kernel_rfl) (by kernel_rfl) (k + 2) base _ m m _ ?_ rfl
  show r45 (rt (k + 2)) (k + 2) m.length (vi n) xw (vi s) (vi t) m = _
  unfold r45
  rw [k1_fun, fVal_fun, rt42 k m.length hk n m hw]
  have en : ∀ b, mun .not (.bool b) = some (.bool (!b)) := fun b => rfl
  have e25 : mbin E .neq 25 (vi (goodC n ws)) (.int .i64 0) = some (.bool (goodC n ws != 0)) := rfl
  simp only [kc, e25, k1n]
  unfold endsC
  have e2 : (goodC n ws != 0) = !(goodC n ws == 0) := rfl
  rw [e2]
  cases goodC n ws == 0 with
  | false => rfl
  | true =>
    simp only [Bool.not_true, kb]
    rw [rt65 (k + 1) _ n s t m]
    simp only [en]
    cases areTwoB n s t <;> rfl
end Go.AM
namespace Go.AM
open Go Go.Proofs
open Go.AM.Det (Mx)
theorem x0t (a b : Value) : mextract 0 (.tuple #[a, b]) = some a := rfl
theorem x1t (a b : Value) : mextract 1 (.tuple #[a, b]) = some b := rfl
theorem neq25 (x : Int) : mbin E .neq 25 (vi x) (.int .i64 0) = some (.bool (x != 0)) := rfl
theorem good_nat {n : Int} {ws : List Wi} (h : goodC n ws = 0) : ∃ (N : Nat) (wn : List Wn), n = N ∧ ws = wn.map wi ∧ 2 ≤ N ∧ N ≤ 8 ∧ wn.length ≤ 16 ∧ (∀ w ∈ wn, w.1 < N ∧ w.2 < N) ∧ ∀ w ∈ wn, w.1 ≠ w.2 := by
  unfold goodC at h
  cases h1 : decide (n < 2) with
  | true => rw [h1] at h; simp at h
  | false =>
    rw [h1] at h
    cases h2 : decide (n > 8) with
    | true => rw [h2] at h; simp at h
    | false =>
      rw [h2] at h
      cases h3 : decide ((ws.length : Int) > 16) with
      | true => rw [h3] at h; simp at h
      | false =>
        rw [h3] at h
        cases h4 : ws.all fun w => areTwoB n w.1 w.2 with
        | false => rw [h4] at h; simp at h
        | true =>
          simp only [decide_eq_false_iff_not] at h1 h2 h3
          rw [List.all_eq_true] at h4
          have h5 : ∀ w ∈ ws, 0 ≤ w.1 ∧ w.1 < n ∧ 0 ≤ w.2 ∧ w.2 < n ∧ w.1 ≠ w.2 := fun w hw => by
            have := h4 w hw
            unfold areTwoB at this
            simpa using this
          refine ⟨n.toNat, ws.map fun w => (w.1.toNat, w.2.toNat), by omega, ?_, by omega, by omega, by simp; omega, fun w hw => ?_, fun w hw => ?_⟩
          · rw [List.map_map]
            have : ∀ w ∈ ws, (wi ∘ fun w : Wi => (w.1.toNat, w.2.toNat)) w = w := fun w hw => by
              have := h5 w hw
              unfold wi
              apply Prod.ext
              · simp; omega
              · simp; omega
            rw [List.map_congr_left this]
            simp
          · simp only [List.mem_map] at hw
            obtain ⟨w', hw', rfl⟩ := hw
            have := h5 w' hw'
            simp only
            omega
          · simp only [List.mem_map] at hw
            obtain ⟨w', hw', rfl⟩ := hw
            have := h5 w' hw'
            simp only
            omega
theorem two_nat {N : Nat} {s t : Int} (h : areTwoB N s t = true) : ∃ a b : Nat, s = a ∧ t = b ∧ a < N ∧ b < N ∧ a ≠ b := by
  unfold areTwoB at h
  simp only [Bool.and_eq_true, decide_eq_true_eq, bne_iff_ne, ne_eq] at h
  exact ⟨s.toNat, t.toNat, by omega, by omega, by omega, by omega, by omega⟩
theorem ends_good {n : Int} {ws : List Wi} {s t : Int} (h : endsC n ws s t = 0) : goodC n ws = 0 ∧ areTwoB n s t = true := by
  unfold endsC at h
  cases hg : goodC n ws == 0 with
  | false =>
    rw [hg] at h
    simp only at h
    rw [h] at hg
    simp at hg
  | true =>
    rw [hg] at h
    cases ht : areTwoB n s t with
    | false => rw [ht] at h; simp at h
    | true => exact ⟨by simpa using hg, rfl⟩
theorem rt14 (k base : Nat) {b : Nat} {xw : Value} {ws : List Wi} (m : M) (hw : WS b m xw ws) : rt (k + 1) base 14 [xw] m = some (.ret (.bool (decide ((ws.length : Int) ≤ 40))), m) := by
  refine rt_pure (f := 14) (rf := rf14) (by kernel_rfl) (by kernel_rfl) (by kernel_rfl) k base _ m m _ ?_ rfl
  show r14 (rt k) k m.length xw m = _
  unfold r14
  rw [k1_fun, vcall_fun, fVal_fun, hw.len]
  rfl
end Go.AM
namespace Go.AM
open Go Go.Proofs
theorem rt33 (w h : Int) (base : Nat) (m : M) (hb : base ≤ m.length) {e : Int} {out : List Sq} (ha : cutAns 38 w h = some (e, out)) :
    ∃ s m', rt 39 base 33 [vi w, vi h] m = some (.ret (.tuple #[s, .int .i64 e]), m') ∧ Keeps m.length m m' ∧ SqIs m.length m' s out := by
  obtain ⟨s, m', h1, h2, h3⟩ := spec33 (rt 38) 38 base w h m hb (rt52 37 base w h m) ha
  refine ⟨s, m', ?_, h2, h3⟩
  refine (rt_imp (f := 33) (rf := rf33) (by kernel_rfl) (by kernel_rfl) (by kernel_rfl) 38 base _ m).trans ?_
  exact h1
theorem rt34 (w h : Int) (base : Nat) (m : M) (hb : base ≤ m.length) {e : Int} {out : List Sq} (ha : cutAns 38 w h = some (e, out)) :
    ∃ s m', rt 39 base 34 [vi w, vi h] m = some (.ret (.tuple #[s, .int .i64 e]), m') ∧ Keeps m.length m m' ∧ SqIs m.length m' s out := by
  obtain ⟨s, m', h1, h2, h3⟩ := spec34 (rt 38) 38 base w h m hb (rt54 37 base w h m) ha
  refine ⟨s, m', ?_, h2, h3⟩
  refine (rt_imp (f := 34) (rf := rf34) (by kernel_rfl) (by kernel_rfl) (by kernel_rfl) 38 base _ m).trans ?_
  exact h1
theorem SqIs.keep {b b2 : Nat} {m m' : M} {s : Value} {out : List Sq} (h : SqIs b m s out) (hk : Keeps b2 m m') (hb : m.length ≤ b2) : SqIs b m' s out := by
  rcases h with h | ⟨h1, r, h2, h3, h4⟩
  · exact .inl h
  · have := (List.getElem?_eq_some_iff.1 h4).1
    exact .inr ⟨h1, r, h2, h3, (hk.2 r (by omega)).trans h4⟩
theorem law6 (w h : Int) : ∃ m', rt 40 0 6 [vi w, vi h] [] = some (.ret (.bool true), m') := by
  obtain ⟨⟨e, out⟩, ha⟩ := cutAns_some 38 (by omega) w h
  obtain ⟨s1, m1, c1, k1', i1⟩ := rt33 w h 0 [] (Nat.le_refl _) ha
  obtain ⟨s2, m2, c2, k2', i2⟩ := rt34 w h 0 m1 (Nat.zero_le _) ha
  have i1' := i1.keep k2' (Nat.le_refl _)
  have c3 : rt 39 0 32 [s1, s2] m2 = some (.ret (.bool true), m2) :=
    rt_pure (f := 32) (rf := rf32) (by kernel_rfl) (by kernel_rfl) (by kernel_rfl) 38 0 [s1, s2] m2 m2 _ (spec32 (rt 38) 38 m2.length m2 out s1 s2 _ _ i1' i2 (cutAns_len ha) (by omega)) rfl
  have c4 : rt 39 0 15 [] m2 = some (.ret (.bool true), m2) := rt15 38 0 m2
  refine ⟨m2, (rt_imp (f := 6) (rf := rf6) (by kernel_rfl) (by kernel_rfl) (by kernel_rfl) 39 0 _ []).trans ?_⟩
  show r6 (rt 39) 39 0 (vi w) (vi h) [] = _
  unfold r6
  rw [c1, k1_fun, fVal_fun]
  have x0 : ∀ s : Value, mextract 0 (.tuple #[s, .int .i64 e]) = some s := fun s => rfl
  have x1 : ∀ s : Value, mextract 1 (.tuple #[s, .int .i64 e]) = some (.int .i64 e) := fun s => rfl
  simp only [kc, x0, x1, k1n]
  rw [c2]
  simp only [x0, x1]
  rw [c3]
  have ee : mbin E .eql 25 (.int .i64 e) (.int .i64 e) = some (.bool (e == e)) := rfl
  have ee2 : (e == e) = true := by simp
  simp only [kb, ee, ee2]
  have mp : mpick (.bool true) (.bool true) (.bool false) = some (.bool true) := rfl
  simp only [k0, mp]
  rw [c4]
  rfl
end Go.AM
