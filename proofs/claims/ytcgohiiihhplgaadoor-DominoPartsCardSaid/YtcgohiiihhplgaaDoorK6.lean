import Derived.Carry
import Derived.Handy
import Derived.KernelRfl
import Derived.Laws.BytesArg
import Derived.Laws.StructEq
import Derived.Maps.AppendAt
import Derived.Maps.OwnOps
import Derived.Maps.RangeRun
import Derived.Maps.RangeWalk
import Derived.Test.YtcgohiiihhplgaaDoorRows
import Derived.WalkKit
import Derived.Test.YtcgohiiihhplgaaDoorAmB
import Derived.Test.YtcgohiiihhplgaaDoorAmModel
import Derived.Test.YtcgohiiihhplgaaDoorAmOps6
import Derived.Test.YtcgohiiihhplgaaDoorAmCode
import Derived.Test.YtcgohiiihhplgaaDoorAmK2
import Derived.Test.YtcgohiiihhplgaaDoorAmEq
import Derived.Test.YtcgohiiihhplgaaDoorRBase
import Derived.Test.YtcgohiiihhplgaaDoorB1
import Derived.Test.YtcgohiiihhplgaaDoorK1
import Derived.Test.YtcgohiiihhplgaaDoorR6
import Derived.Test.YtcgohiiihhplgaaDoorR41
import Derived.Test.YtcgohiiihhplgaaDoorR42
import Derived.Test.YtcgohiiihhplgaaDoorD3
import Derived.Test.YtcgohiiihhplgaaDoorK3
import Derived.Test.YtcgohiiihhplgaaDoorAmS
import Derived.Test.YtcgohiiihhplgaaDoorK4
import Derived.Test.YtcgohiiihhplgaaDoorK5
set_option linter.unusedVariables false
set_option linter.unusedSimpArgs false
set_option linter.unusedSectionVars false
namespace Go.AM
open Go Go.Proofs
open Go.ChangeMaps (setBlock)
open Go.RowKit
set_option maxRecDepth 100000 in
set_option maxHeartbeats 1000000 in
theorem count_zero (w : World) : Calls Tryd.prog 52 #[.int .u64 0] w fun e w' => e = .returned (.int .i64 (IntKind.i64.wrap (NT 0))) ∧ w.grownBy w' none := by
  rw [NT_zero]
  go_enter Tryd.func52, Tryd.ntmps52
  go_wp2_with (first
    | (refine wp_make _ rfl _ rfl ?_; intro w1 hm1 hg1 hz1; go_frame)
    | (refine wp_upd _ rfl _ _ _ (.inr rfl) w.heap.size [] 0 0 1 rfl rfl rfl hm1 ?_; intro w2 hm2 hg2 hz2; go_frame)
    | go_in)
  have hgw : w.grownBy w2 none := hg1.andThen hg2 (fun j hj => by cases hj; exact .inl (Nat.le_refl _))
  clear hm1 hg1 hg2 hz1 hz2
  refine wp_loop_rounds 1 ?_
  rw [rounds_succ]
  go_wp2
  refine wp_loop_rounds 1 ?_
  rw [rounds_succ]
  go_wp2_with (first
    | (at_lookup; refine wp_look _ rfl _ _ rfl w.heap.size _ _ 0 rfl rfl hm2 ?_; go_frame)
    | go_in)
  go_ret
  exact ⟨rfl, hgw⟩
theorem count_any (s : B) (w : World) (hG : Glob (fun _ => none) w) : Calls Tryd.prog 52 #[vb s] w fun e w' => e = .returned (.int .i64 (IntKind.i64.wrap (NT s))) ∧ w.grownBy w' none := by
  by_cases hs : s = 0
  · subst hs; exact count_zero w
  · exact count_ne s hs w hG
/-- Count, as a short cut. -/
def sc52 : SC := fun args _ => match args with
  | [.int .u64 (.ofNat n)] => if n < 18446744073709551616 then fVal (.int .i64 (IntKind.i64.wrap (NT (BitVec.ofNat 64 n)))) some else none
  | _ => none
theorem sc52_ok : SCok E (52, sc52) := by
  intro base args m v h
  simp only [sc52] at h
  split at h
  · rename_i n
    split at h
    · rename_i hn
      rw [fVal_eq] at h
      simp only [Option.some.injEq] at h
      subst h
      refine ⟨Nat.le_refl _, ⟨Tryd.f52, by kernel_rfl, by kernel_rfl⟩, fun ρ w vs hR hb hl => ?_⟩
      have e : vs = [vb (BitVec.ofNat 64 n)] := by
        have hlen := hl.1
        match vs, hlen with
        | [v], _ =>
          have := hl.2 0 _ _ rfl rfl
          cases this
          unfold vb
          rw [BitVec.toNat_ofNat, Nat.mod_eq_of_lt hn]
          rfl
      subst e
      refine (count_any (BitVec.ofNat 64 n) w (hR.gl.sub fun r l hr => by simp at hr)).mono fun e w' hk => ?_
      obtain ⟨he, g⟩ := hk
      refine ⟨ρ, ⟨Map.le_refl _, fun _ _ h => .inl h, g.size, g.os, g.tape, g.output, fun b hb _ => g.block b hb (by simp)⟩, ⟨hR.dom, ?_, hR.sep, hR.gl.of (fun _ hz => g.block 0 hz (by simp)) (fun hf _ => hf)⟩, _, he, .int _ _⟩
      intro r l row hrl hrow
      obtain ⟨a, b, C, T, fz, hh, rest⟩ := hR.row r l row hrl hrow
      exact ⟨a, b, C, T, fz, by rw [g.block l.b (Array.getElem?_eq_some_iff.1 hh).1 (by simp)]; exact hh, rest⟩
    · simp at h
  · simp at h
end Go.AM
namespace Go.AM
open Go Go.Proofs
open Go.RowKit
/-- The number of the lowest cell, 64 if there is none. -/
def tz (s : B) : Nat := ((List.range 64).find? fun i => s.getLsbD i).getD 64
theorem tz_zero : tz 0 = 64 := by decide +kernel
theorem tz_of {s : B} {i : Nat} (hi : s.getLsbD i = true) (hlow : ∀ j, j < i → s.getLsbD j = false) : tz s = i := by
  unfold tz
  have : (List.range 64).find? (fun i => s.getLsbD i) = some i := by
    rw [List.find?_eq_some_iff_getElem]
    refine ⟨hi, i, by simpa using get_lt hi, by simp, fun j hj => by simp [hlow j hj]⟩
  rw [this]; rfl
theorem tz_one (i : Nat) (h : i < 64) : tz (one i) = i := tz_of (by rw [one_get _ _ h]; simp) fun j hj => by rw [one_get _ _ h]; simp; omega
/-- Where the table is looked up. -/
def dbi (i : Nat) : Nat := (one i).toNat * 285870213051353865 % 18446744073709551616 / 288230376151711744
def dbm (i : Nat) : Int := (((one i).toNat * 285870213051353865 % 18446744073709551616 : Nat) : Int)
def tab64 : List Value := [0, 1, 56, 2, 57, 49, 28, 3, 61, 58, 42, 50, 38, 29, 17, 4, 62, 47, 59, 36, 45, 43, 51, 22, 53, 39, 33, 30, 24, 18, 12, 5, 63, 55, 48, 27, 60, 41, 37, 16, 46, 35, 44, 21, 52, 32, 23, 11, 54, 26, 40, 15, 34, 20, 31, 10, 25, 14, 19, 9, 13, 8, 7, 6].map fun (n : Int) => .int .u8 n
def tabN : List Nat := [0, 1, 56, 2, 57, 49, 28, 3, 61, 58, 42, 50, 38, 29, 17, 4, 62, 47, 59, 36, 45, 43, 51, 22, 53, 39, 33, 30, 24, 18, 12, 5, 63, 55, 48, 27, 60, 41, 37, 16, 46, 35, 44, 21, 52, 32, 23, 11, 54, 26, 40, 15, 34, 20, 31, 10, 25, 14, 19, 9, 13, 8, 7, 6]
theorem dbi_ok (i : Nat) (h : i < 64) : tabN[dbi i]? = some i ∧ dbi i < 64 := by
  have := all64 (p := fun i => (tabN[dbi i]? == some i) && decide (dbi i < 64)) (by decide +kernel) i h
  simpa using this
theorem tab_eq : tab64 = tabN.map fun n => .int .u8 (n : Int) := rfl
theorem cell_tab {w : World} (hG : Glob (fun _ => none) w) (i : Nat) (h : i < 64) : w.cell? ⟨0, dbi i, none⟩ = some (.int .u8 (i : Int)) := by
  obtain ⟨C, T, fz, hc, hl⟩ := hG.here
  have e : (C.toList)[dbi i]? = some (.int .u8 (i : Int)) := by
    rw [hl]
    show tab64[dbi i]? = _
    rw [tab_eq, List.getElem?_map, (dbi_ok i h).1]
    rfl
  simp [World.cell?, hc]
  simpa using e
theorem run_neg57 (a : B) (w : World) : (Op.unary .neg (vb a)).run Tryd.prog w = .ok (vb (-a)) w := by
  have h := b_neg a
  have e : mun .neg (vb a) = some (.int .u64 (IntKind.u64.wrap (0 - (a.toNat : Int)))) := rfl
  rw [e] at h
  rw [← Option.some.inj h]
  unfold vb
  show _ = _
  kernel_rfl
theorem run_and57 (a b : B) (w : World) : (binOp BinOp.and 57 (vb a) (vb b)).run Tryd.prog w = .ok (vb (andB a b)) w := by
  have h := band a b
  unfold vb andB
  rw [← h]
  show _ = _
  kernel_rfl
theorem run_eq57 (a : B) (w : World) : (binOp .eql 57 (vb a) (.int .u64 0)).run Tryd.prog w = .ok (.bool (isz a)) w := by
  have h := b_eq a 0
  have e : mbin E .eql 58 (vb a) (.int .u64 0) = some (.bool ((a.toNat : Int) == 0)) := rfl
  rw [show vb 0 = .int .u64 0 from rfl, e] at h
  unfold isz
  rw [← Value.bool.inj (Option.some.inj h)]
  unfold vb
  show _ = _
  kernel_rfl
theorem run_g57 (x y : Operand) (a : B) (w : World) : (eqGuard .eql 57 x y (vb a) (.int .u64 0)).run Tryd.prog w = .ok () w := by
  simp [eqGuard, vb]
theorem run_mul57 (i : Nat) (w : World) : (binOp .mul 57 (vb (one i)) (.int .u64 285870213051353865)).run Tryd.prog w = .ok (.int .u64 (dbm i)) w := by
  have e : dbm i = IntKind.u64.wrap (((one i).toNat : Int) * 285870213051353865) := by
    rw [wrap_u64]; unfold dbm; omega
  rw [e]
  unfold vb
  show _ = _
  kernel_rfl
theorem divq (n : Nat) : (n : Int) / 288230376151711744 = ((n / 288230376151711744 : Nat) : Int) := by omega
theorem dbq (i : Nat) : dbm i / 288230376151711744 = (dbi i : Int) := divq _
theorem tz_pre (w : World) (hG : Glob (fun _ => none) w) (i : Nat) (hi : i < 64) : ∃ Q : Int, (∀ w : World, (binOp .mul 57 (vb (one i)) (.int .u64 285870213051353865)).run Tryd.prog w = .ok (.int .u64 Q) w) ∧
    w.cell? ⟨0, (Q / 288230376151711744).toNat, none⟩ = some (.int .u8 (i : Int)) ∧ 0 ≤ Q / 288230376151711744 ∧ Q / 288230376151711744 < 64 := by
  have hc := cell_tab hG i hi
  have hd := (dbi_ok i hi).2
  have hM := run_mul57 i
  have hdq := dbq i
  generalize dbm i = Q at hM hdq
  generalize dbi i = D at hc hd hdq
  refine ⟨Q, hM, ?_, by omega, by omega⟩
  rw [hdq, Int.toNat_natCast]
  exact hc
set_option maxRecDepth 100000 in
set_option maxHeartbeats 1000000 in
theorem tz_any0 (w : World) : Calls Tryd.prog 93 #[vb 0] w fun e w' => e = .returned (.int .i64 (64 : Int)) ∧ w = w' := by
  have hE := run_eq57
  have hg := run_g57
  have hz : isz 0 = true := isz_true rfl
  go_enter Tryd.func93, Tryd.ntmps93
  go_wp2
  go_ret
  exact ⟨rfl, rfl⟩
set_option maxRecDepth 100000 in
set_option maxHeartbeats 1000000 in
theorem tz_any1 (s u : B) (ts : Nat) (hz : isz s = false) (i : Nat) (hi2 : (i : Int) < 64) (hl : andB s (-s) = u) (w : World) (Q : Int) (hM : ∀ w : World, (binOp .mul 57 (vb u) (.int .u64 285870213051353865)).run Tryd.prog w = .ok (.int .u64 Q) w)
    (hc : w.cell? ⟨0, (Q / 288230376151711744).toNat, none⟩ = some (.int .u8 (i : Int))) (hd1 : 0 ≤ Q / 288230376151711744) (hd2 : Q / 288230376151711744 < 64) : Calls Tryd.prog 93 #[vb s] w fun e w' => e = .returned (.int .i64 (i : Int)) ∧ w = w' := by
  have hN := run_neg57
  have hA := run_and57
  have hE := run_eq57
  have hg := run_g57
  go_enter Tryd.func93, Tryd.ntmps93
  go_wp2
  go_ret
  exact ⟨rfl, rfl⟩
theorem tz_any (s : B) (w : World) (hG : Glob (fun _ => none) w) : Calls Tryd.prog 93 #[vb s] w fun e w' => e = .returned (.int .i64 (tz s : Int)) ∧ w = w' := by
  by_cases h0 : s = 0
  · subst h0
    rw [tz_zero]
    exact tz_any0 w
  · obtain ⟨i, hi, hsi, hlow, e⟩ := low_one h0
    obtain ⟨Q, h1, h2, h3, h4⟩ := tz_pre w hG i hi
    rw [tz_of hsi hlow]
    exact tz_any1 s (one i) 0 (isz_false h0) i (by omega) e w Q h1 h2 h3 h4
/-- The number of the lowest cell, as a short cut. -/
def sc93 : SC := fun args _ => match args with
  | [.int .u64 (.ofNat n)] => if n < 18446744073709551616 then fVal (.int .i64 (tz (BitVec.ofNat 64 n) : Int)) some else none
  | _ => none
theorem sc93_ok : SCok E (93, sc93) := by
  intro base args m v h
  simp only [sc93] at h
  split at h
  · rename_i n
    split at h
    · rename_i hn
      rw [fVal_eq] at h
      simp only [Option.some.injEq] at h
      subst h
      refine ⟨Nat.le_refl _, ⟨Tryd.f93, by kernel_rfl, by kernel_rfl⟩, fun ρ w vs hR hb hl => ?_⟩
      have e : vs = [vb (BitVec.ofNat 64 n)] := by
        have hlen := hl.1
        match vs, hlen with
        | [v], _ =>
          have := hl.2 0 _ _ rfl rfl
          cases this
          unfold vb
          rw [BitVec.toNat_ofNat, Nat.mod_eq_of_lt hn]
          rfl
      subst e
      refine (tz_any (BitVec.ofNat 64 n) w (hR.gl.sub fun r l hr => by simp at hr)).mono fun e w' hk => ?_
      obtain ⟨he, rfl⟩ := hk
      exact ⟨ρ, Ext.refl _ _ _, hR, _, he, .int _ _⟩
    · simp at h
  · simp at h
end Go.AM
