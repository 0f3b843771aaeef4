import Derived.Carry
import Derived.Deep.DeepHandedRow
import Derived.Handy
import Derived.JoinedCond
import Derived.KernelRfl
import Derived.Laws.BytesArg
import Derived.Laws.StructEq
import Derived.Lib.LaidTab
import Derived.Maps.AppendAt
import Derived.Maps.OwnOps
import Derived.Maps.RangeRun
import Derived.Maps.RangeWalk
import Derived.OpenShut
import Derived.ProofKit
import Derived.Test.YtcgohiiihhplgaaDoorCards
import Derived.Test.YtcgohiiihhplgaaDoorRows
import Derived.Test.YtcgohiiihhplgaaDoorTie
import Derived.WalkKit
import Derived.Test.YtcgohiiihhplgaaDoorAmB
import Derived.Test.YtcgohiiihhplgaaDoorAmModel
import Derived.Test.YtcgohiiihhplgaaDoorAmOps6
import Derived.Test.YtcgohiiihhplgaaDoorAmCode
import Derived.Test.YtcgohiiihhplgaaDoorAmK2
import Derived.Test.YtcgohiiihhplgaaDoorAmEq
import Derived.Test.YtcgohiiihhplgaaDoorRBase
import Derived.Test.YtcgohiiihhplgaaDoorB1
import Derived.Test.YtcgohiiihhplgaaDoorK1
import Derived.Test.YtcgohiiihhplgaaDoorR6
import Derived.Test.YtcgohiiihhplgaaDoorR41
import Derived.Test.YtcgohiiihhplgaaDoorR42
import Derived.Test.YtcgohiiihhplgaaDoorD3
import Derived.Test.YtcgohiiihhplgaaDoorK3
import Derived.Test.YtcgohiiihhplgaaDoorAmS
import Derived.Test.YtcgohiiihhplgaaDoorK4
import Derived.Test.YtcgohiiihhplgaaDoorK5
import Derived.Test.YtcgohiiihhplgaaDoorK6
import Derived.Test.YtcgohiiihhplgaaDoorS13
import Derived.Test.YtcgohiiihhplgaaDoorS14
import Derived.Test.YtcgohiiihhplgaaDoorCB
import Derived.Test.YtcgohiiihhplgaaDoorD0
import Derived.Test.YtcgohiiihhplgaaDoorDet1
import Derived.Test.YtcgohiiihhplgaaDoorDH1
import Derived.Test.YtcgohiiihhplgaaDoorD4
import Derived.Test.YtcgohiiihhplgaaDoorM1
import Derived.Test.YtcgohiiihhplgaaDoorM2
import Derived.Test.YtcgohiiihhplgaaDoorU1
import Derived.Test.YtcgohiiihhplgaaDoorT6
import Derived.Test.YtcgohiiihhplgaaDoorV2
import Derived.Test.YtcgohiiihhplgaaDoorV10
set_option linter.unusedVariables false
set_option linter.unusedSimpArgs false
set_option linter.unusedSectionVars false
namespace Go.AM
open Go Go.Proofs
theorem t6 (n base : Nat) {m : M} (hb : base ≤ m.length) {v : Value} {l : List ByteArray} (hl0 : l.length ≤ 9223372036854775807) (hsz : ∀ b ∈ l, b.size ≤ 9223372036854775807) (hv : Strs m v l) :
    ∃ m', rt (n + 1020) base 6 [v] m = some (.ret (.bool true), m') := by
  rw [rt_imp (f := 6) (rf := rf6) (by kernel_rfl) (by kernel_rfl) (by kernel_rfl) (n + 1019) base]
  show ∃ m', r6 (rt (n + 1019)) (n + 1019) base v m = _
  obtain ⟨bf, h12, hfew⟩ := t12z (n + 997) base hv
  unfold r6
  rw [k1_fun, vcall_fun, fVal_fun, h12, kcs, mnot_b, k1s]
  cases bf with
  | false =>
    rw [Bool.not_false, kbt, rt13]
    exact ⟨m, rfl⟩
  | true =>
    have hl20 := hfew rfl
    obtain ⟨u, m1, hcopy, su, k1'⟩ := copyS base hb hv (by omega)
    have hv1 := hv.keeps k1'
    have hb1 := Nat.le_trans hb k1'.1
    obtain ⟨v27, e27, m2, h27, k2', f27⟩ := t27 (n + 819) base hb1 hl0 hsz su
    have hv2 := hv1.keeps k2'
    have su2 := su.keeps k2'
    have hb2 := Nat.le_trans hb1 k2'.1
    obtain ⟨v28, e28, m3, h28, k3', f28⟩ := t28 (n + 49) base hb2 hv2
    have hv3 := hv2.keeps k3'
    have su3 := su2.keeps k3'
    have hb3 := Nat.le_trans hb2 k3'.1
    have h30 := t30 (n + 819) base hb3 hl0 hsz su3
    have h31 := t31 (n + 49) base hv3
    obtain ⟨v32, e32, m4, h32, k4', f32⟩ := t32 (n + 819) base hb3 hl0 hsz su3
    have hv4 := hv3.keeps k4'
    have su4 := su3.keeps k4'
    have hb4 := Nat.le_trans hb3 k4'.1
    obtain ⟨v33, e33, m5, h33, k5', f33⟩ := t33 (n + 49) base hb4 hv4
    have hv5 := hv4.keeps k5'
    have su5 := su4.keeps k5'
    have h19 := t19 (n + 909) base su5 hv5 (by omega)
    have regs1 : ∃ L, Regs m3 v27 L ∧ Regs m3 v28 L ∧ L.length ≤ 100 ∧ (∀ l ∈ L, l.length ≤ 100) ∧ e27 = e28 := by
      cases hr : readB l with
      | none =>
        rw [hr] at f27 f28
        obtain ⟨rfl, rfl⟩ := f27
        obtain ⟨rfl, rfl⟩ := f28
        exact ⟨[], .inl ⟨rfl, rfl⟩, .inl ⟨rfl, rfl⟩, by simp, by simp, rfl⟩
      | some x =>
        obtain ⟨w, h, c, g⟩ := x
        have H := readB_reg hr
        rw [hr] at f27 f28
        obtain ⟨rfl, p27⟩ := f27
        obtain ⟨rfl, p28⟩ := f28
        have hlen := (spl_ok 65 c (by have := unc_le c; omega)).2.2
        have h8 := H.h8
        refine ⟨_, p27.regs.keeps k3', p28.regs, by rw [List.length_map]; omega, fun l hl => ?_, rfl⟩
        obtain ⟨q, _, rfl⟩ := List.mem_map.1 hl
        simp only [drawL, List.length_map, List.length_range]
        omega
    have regs2 : ∃ L, Regs m5 v32 L ∧ Regs m5 v33 L ∧ L.length ≤ 100 ∧ (∀ l ∈ L, l.length ≤ 100) ∧ e32 = e33 := by
      cases hr : readB l with
      | none =>
        rw [hr] at f32 f33
        obtain ⟨rfl, rfl⟩ := f32
        obtain ⟨rfl, rfl⟩ := f33
        exact ⟨[], .inl ⟨rfl, rfl⟩, .inl ⟨rfl, rfl⟩, by simp, by simp, rfl⟩
      | some x =>
        obtain ⟨w, h, c, g⟩ := x
        have H := readB_reg hr
        have h8 := H.h8
        rw [hr] at f32 f33
        simp only at f32 f33
        by_cases hc : canB c = true
        · rw [if_pos hc] at f32 f33
          obtain ⟨rfl, p, a, b, rfl, hp, sa, sb⟩ := f32
          obtain ⟨rfl, q, a', b', rfl, hq, sa', sb'⟩ := f33
          refine ⟨_, (two_regs hp sa sb).keeps k5', two_regs hq sa' sb', by simp, fun l hl => ?_, rfl⟩
          simp only [List.mem_cons, List.not_mem_nil, or_false] at hl
          rcases hl with rfl | rfl <;> (simp only [drawL, List.length_map, List.length_range]; omega)
        · rw [if_neg hc] at f32 f33
          obtain ⟨rfl, rfl⟩ := f32
          obtain ⟨rfl, rfl⟩ := f33
          exact ⟨[], .inl ⟨rfl, rfl⟩, .inl ⟨rfl, rfl⟩, by simp, by simp, rfl⟩
    obtain ⟨L1, r1, r2, r3, r4, rfl⟩ := regs1
    obtain ⟨L2, s1, s2, s3, s4, rfl⟩ := regs2
    have h29 := t29 (n + 719) base r1 r2 r3 r4
    have h29b := t29 (n + 719) base s1 s2 s3 s4
    have hol : ∃ a e : Int, rt (n + 1019) base 30 [u] m3 = some (.ret (.tuple #[vi a, vi e]), m3) ∧ rt (n + 1019) base 31 [v] m3 = some (.ret (.tuple #[vi a, vi e]), m3) := by
      cases hr : readB l with
      | none => rw [hr] at h30 h31; exact ⟨_, _, h30, h31⟩
      | some x => obtain ⟨w, h, c, g⟩ := x; rw [hr] at h30 h31; exact ⟨_, _, h30, h31⟩
    obtain ⟨a, e, h30', h31'⟩ := hol
    have h29' : rt (n + 1019) base 29 [v27, v28] m3 = some (.ret (.bool true), m3) := h29
    have h29b' : rt (n + 1019) base 29 [v32, v33] m5 = some (.ret (.bool true), m5) := h29b
    rw [Bool.not_true, kbf, hcopy, h27, kcs, ex0, k1s, ex1, k1s, h28, kcs, ex0, k1s, ex1, k1s, h29', kcs, mnot_b, k1s, Bool.not_true, kbf, n26s, k1s, kbf, h30', kcs, ex0, k1s, ex1, k1s, h31', kcs, ex0, k1s, ex1, k1s, i_neq, k1s, decide_eq_true rfl, Bool.not_true, kbf, n26s, k1s, kbf, h32, kcs, ex0, k1s, ex1, k1s, h33, kcs, ex0, k1s, ex1, k1s, h29b', kcs, kbt, e26, k1s, decide_eq_true rfl, kbt, h19, kcs, kbt, rt13]
    exact ⟨m5, rfl⟩
end Go.AM
