import Derived.Carry
import Derived.Deep.DeepHandedRow
import Derived.Handy
import Derived.JoinedCond
import Derived.KernelRfl
import Derived.Laws.BytesArg
import Derived.Laws.StructEq
import Derived.Lib.LaidTab
import Derived.Maps.AppendAt
import Derived.Maps.OwnOps
import Derived.Maps.RangeRun
import Derived.Maps.RangeWalk
import Derived.OpenShut
import Derived.ProofKit
import Derived.Test.YtcgohiiihhplgaaDoorCards
import Derived.Test.YtcgohiiihhplgaaDoorRows
import Derived.Test.YtcgohiiihhplgaaDoorTie
import Derived.WalkKit
import Derived.Test.YtcgohiiihhplgaaDoorAmB
import Derived.Test.YtcgohiiihhplgaaDoorAmModel
import Derived.Test.YtcgohiiihhplgaaDoorAmOps6
import Derived.Test.YtcgohiiihhplgaaDoorAmCode
import Derived.Test.YtcgohiiihhplgaaDoorAmK2
import Derived.Test.YtcgohiiihhplgaaDoorAmEq
import Derived.Test.YtcgohiiihhplgaaDoorRBase
import Derived.Test.YtcgohiiihhplgaaDoorB1
import Derived.Test.YtcgohiiihhplgaaDoorK1
import Derived.Test.YtcgohiiihhplgaaDoorR9
import Derived.Test.YtcgohiiihhplgaaDoorR41
import Derived.Test.YtcgohiiihhplgaaDoorR47
import Derived.Test.YtcgohiiihhplgaaDoorD3
import Derived.Test.YtcgohiiihhplgaaDoorK3
import Derived.Test.YtcgohiiihhplgaaDoorAmS
import Derived.Test.YtcgohiiihhplgaaDoorK4
import Derived.Test.YtcgohiiihhplgaaDoorK5
import Derived.Test.YtcgohiiihhplgaaDoorK6
import Derived.Test.YtcgohiiihhplgaaDoorS13
import Derived.Test.YtcgohiiihhplgaaDoorS14
import Derived.Test.YtcgohiiihhplgaaDoorCB
import Derived.Test.YtcgohiiihhplgaaDoorD0
import Derived.Test.YtcgohiiihhplgaaDoorDet1
import Derived.Test.YtcgohiiihhplgaaDoorDH1
import Derived.Test.YtcgohiiihhplgaaDoorD4
import Derived.Test.YtcgohiiihhplgaaDoorM1
import Derived.Test.YtcgohiiihhplgaaDoorM2
import Derived.Test.YtcgohiiihhplgaaDoorU1
import Derived.Test.YtcgohiiihhplgaaDoorU6
set_option linter.unusedVariables false
set_option linter.unusedSimpArgs false
set_option linter.unusedSectionVars false
namespace Go.AM
open Go Go.Proofs
theorem wr_mull (a b : Int) : wr (wr a * b) = wr (a * b) := by
  have h := cg_wrap a
  obtain ⟨k, hk⟩ := h
  exact wrap_cg ⟨k * b, by rw [← Int.sub_mul, hk, Int.mul_assoc]⟩
theorem loop9 (call : CallF) (fuel base : Nat) (kp kr : Value → M → Res2) (kx : Value → Value → Value → M → Res2) (x0 x3 : Value) {m : M} {r w h : Nat} {X : List B} {cs : List Value} (hX : X.length ≤ 100)
    (hr : m[r]? = some (rowz 1 false cs)) (hp : PartsI m (sl r X.length) cs X w h)
    (h24 : ∀ v' p, Strs m v' (drawL p w h) → p ∈ X → call base 24 [v'] m = some (.ret (.tuple #[vi (NT p : Int), vi 0]), m)) :
    ∀ (n j : Nat) (a : Int), j ≤ X.length → X.length < n + j → r9_L0 call fuel base kp kr kx n x0 x3 (sl r X.length) (vi (wr a)) (vi j) m = kx x0 x3 (vi (wr (a * (prodL (X.drop j) : Int)))) m
  | 0, j, a, hj, hn => by omega
  | n + 1, j, a, hj, hn => by
    rw [r9_L0_s, len43, k2s, lss_nat, k1s]
    by_cases hlt : j < X.length
    · obtain ⟨ra, row, a1, a2, a3, a4, a5⟩ := hp.2 j hlt
      have hs : Strs m (sl ra h) (drawL X[j] w h) := .inr ⟨ra, row, by simp [drawL], a4, a5⟩
      have hld : xload E.P m 22 (pt r j) = some (sl ra h) := by
        have e : xload E.P m 22 (pt r j) = mcell m r j := by
          have : xload E.P m 22 (pt r j) = (xcell m r j) := by kernel_rfl
          rw [this, xcell_eq]
        rw [e]
        unfold mcell
        rw [hr]
        exact a1
      have hdrop : X.drop j = X[j] :: X.drop (j + 1) := List.drop_eq_getElem_cons hlt
      have hmul : mbin E .mul 3 (vi (wr a)) (vi (NT X[j] : Int)) = some (vi (wr (wr a * (NT X[j] : Int)))) := rfl
      have z26 : mbin E .neq 26 (vi 0) (.int .i64 0) = some (.bool false) := n26s 0
      rw [decide_eq_true hlt, kbt, ix43 r X.length X.length j hlt, k1s, hld, k1s, h24 _ _ hs (List.getElem_mem hlt), kcs, ex0, k1s, ex1, k1s, z26, k1s, kbf, hmul, k1s, wr_mull, add1 j (by omega), k1s]
      rw [loop9 call fuel base kp kr kx x0 x3 hX hr hp h24 n (j + 1) (a * (NT X[j] : Int)) (by omega) (by omega), hdrop]
      show kx x0 x3 _ m = kx x0 x3 (vi (wr (a * ((NT X[j] * prodL (X.drop (j + 1)) : Nat) : Int)))) m
      rw [Int.natCast_mul, Int.mul_assoc]
    · have : j = X.length := by omega
      subst this
      rw [decide_eq_false hlt, kbf, List.drop_length]
      show _ = kx x0 x3 (vi (wr (a * ((1 : Nat) : Int)))) m
      rw [show a * ((1 : Nat) : Int) = a from Int.mul_one a]
theorem t9 (n base : Nat) {m : M} (hb : base ≤ m.length) {v : Value} {l : List ByteArray} (hl0 : l.length ≤ 9223372036854775807) (hsz : ∀ b ∈ l, b.size ≤ 9223372036854775807) (hv : Strs m v l) :
    ∃ m', rt (n + 1020) base 9 [v] m = some (.ret (.bool true), m') := by
  rw [rt_imp (f := 9) (rf := rf9) (by kernel_rfl) (by kernel_rfl) (by kernel_rfl) (n + 1019) base]
  show ∃ m', r9 (rt (n + 1019)) (n + 1019) base v m = _
  obtain ⟨bf, h12⟩ := t12 (n + 997) base hv
  have h24 := t24 (n + 999) base hl0 hsz hv
  obtain ⟨v26, e27, m2, h27, k27, f27⟩ := t27 (n + 819) base hb hl0 hsz hv
  have hv2 := hv.keeps k27
  have hb2 := Nat.le_trans hb k27.1
  have h34 := t34 (n + 1007) base hv2
  unfold r9
  rw [k1_fun, vcall_fun, fVal_fun, h12, kcs, mnot_b, k1s]
  cases bf with
  | false =>
    rw [Bool.not_false, kbt, rt13]
    exact ⟨m, rfl⟩
  | true =>
    rw [Bool.not_true, kbf, h24, kcs]
    cases hr : readB l with
    | none =>
      have q2 : cntR l = .tuple #[vi 0, vi 2] := by unfold cntR; rw [hr]
      rw [hr] at f27
      obtain ⟨rfl, rfl⟩ := f27
      rw [q2, ex0, k1s, ex1, k1s, h27, kcs, ex0, k1s, ex1, k1s, show (.int .i64 0 : Value) = vi 0 from rfl, show (.int .i64 2 : Value) = vi 2 from rfl, n26, k1s, decide_eq_true (by omega : (2 : Int) ≠ 0), kbt, e26, k1s, decide_eq_true rfl, kbt, k1s, kbt, len43n, k2s, i_eql, k1s, decide_eq_true rfl, kbt, rt13]
      exact ⟨m2, rfl⟩
    | some x =>
      obtain ⟨w, h, c, g⟩ := x
      have H := readB_reg hr
      have q2 : cntR l = .tuple #[vi (NT c : Int), vi 0] := by unfold cntR; rw [hr]
      rw [hr] at f27 h34
      obtain ⟨rfl, cs, g27, p27⟩ := f27
      obtain ⟨s1, s2, s3⟩ := spl_ok 65 c (by have := unc_le c; omega)
      have h34' : rt (n + 1019) base 34 [v] m2 = some (.ret (.bool true), m2) := h34
      have z26 : mbin E .neq 26 (vi 0) (.int .i64 0) = some (.bool false) := n26s 0
      rw [q2, ex0, k1s, ex1, k1s, h27, kcs, ex0, k1s, ex1, k1s, z26, k1s, kbf, k1s, kbf, h34', kcs, mnot_b, k1s, Bool.not_true, kbf]
      have hloop : ∀ (kp kr : Value → M → Res2) (kx : Value → Value → Value → M → Res2), r9_L0 (rt (n + 1019)) (n + 1019) base kp kr kx (n + 1019) v (vi (NT c : Int)) v26 (.int .i64 1) (.int .i64 0) m2 = kx v (vi (NT c : Int)) (vi (NT c : Int)) m2 := fun kp kr kx => by
        rcases g27 with ⟨h1, rfl, h3⟩ | ⟨r, h1, h2, rfl, h4, h5⟩
        · have hnil : splL 65 c = [] := List.eq_nil_of_length_eq_zero h1
          have hNT : NT c = 1 := by rw [← s1, hnil]; rfl
          rw [show n + 1019 = (n + 1018) + 1 from rfl, r9_L0_s, len43n, k2s, show (vi 0 : Value) = vi ((0 : Nat) : Int) from rfl, show (.int .i64 0 : Value) = vi ((0 : Nat) : Int) from rfl, lss_nat, k1s, decide_eq_false (by omega), kbf, hNT]
          rfl
        · have e := loop9 (rt (n + 1019)) (n + 1019) base kp kr kx v (vi (NT c : Int)) (m := m2) (r := r) (w := w) (h := h) (X := splL 65 c) (cs := cs) (by omega) h4 p27 (fun v' p hs hp => by
            obtain ⟨g', hr'⟩ := readB_draw (s := p) H.w1 H.w8 H.h1 H.h8 (fun i hi => H.rect.inn i (s2 p hp i hi))
            have H' := readB_reg hr'
            have e24 := t24 (n + 999) base (by rw [H'.len]; have := H'.h8; omega) (fun b hb => by rw [H'.sz b hb]; have := H'.w8; omega) hs
            unfold cntR at e24
            rw [hr'] at e24
            exact e24) (n + 1019) 0 1 (by omega) (by omega)
          rw [List.drop_zero, s1, Int.one_mul, wr_nt] at e
          exact e
      rw [hloop]
      obtain ⟨⟨v75, m3, e35, s75, k35⟩, _⟩ := t35 (n + 959) base hb2 H hv2
      obtain ⟨c1, g1, r1, n1⟩ := tur_ok hr
      have hv3 := hv2.keeps k35
      have hb3 := Nat.le_trans hb2 k35.1
      obtain ⟨_, ⟨v81, m4, e35', s81, k35'⟩⟩ := t35 (n + 959) base hb3 H hv3
      obtain ⟨c2, g2, r2, n2⟩ := mir_ok hr
      have hv4 := hv3.keeps k35'
      have a1 := (cal36 (n + 949) base (v := v) hr).c24 m3 v75 _ _ _ _ _ r1 s75
      have a2 := (cal36 (n + 949) base (v := v) hr).c24 m4 v81 _ _ _ _ _ r2 s81
      have a3 := t36 (n + 929) base hr hv4
      rw [n1] at a1
      rw [n2] at a2
      rw [e35, kcs, a1, kcs, ex0, k1s, ex1, k1s, e35', kcs, a2, kcs, ex0, k1s, ex1, k1s, i_neq, k1s, decide_eq_true rfl, Bool.not_true, kbf, z26, k1s, kbf, k1s, kbf, k1s, kbf, k1s, kbf, a3, kcs, kbt, rt13]
      exact ⟨m4, rfl⟩
end Go.AM
