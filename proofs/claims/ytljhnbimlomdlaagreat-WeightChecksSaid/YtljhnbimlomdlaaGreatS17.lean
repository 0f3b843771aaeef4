import Derived.KernelRfl
import Derived.Laws.BytesArg
import Derived.Laws.StructEq
import Derived.RangeFuncLeaves
import Derived.RangeFuncRecord
import Derived.Test.YtljhnbimlomdlaaGreatProg
import Derived.Test.YtljhnbimlomdlaaGreatRows
import Derived.WalkKit
import Derived.Test.YtljhnbimlomdlaaGreatAmB
import Derived.Test.YtljhnbimlomdlaaGreatAmG
import Derived.Test.YtljhnbimlomdlaaGreatAmModel
import Derived.Test.YtljhnbimlomdlaaGreatAmRel
import Derived.Test.YtljhnbimlomdlaaGreatAmOps6
import Derived.Test.YtljhnbimlomdlaaGreatAmCode
import Derived.Test.YtljhnbimlomdlaaGreatAmDraw5
import Derived.Test.YtljhnbimlomdlaaGreatAmEq
import Derived.Test.YtljhnbimlomdlaaGreatRBase
import Derived.Test.YtljhnbimlomdlaaGreatR31
import Derived.Test.YtljhnbimlomdlaaGreatR63
import Derived.Test.YtljhnbimlomdlaaGreatR93
import Derived.Test.YtljhnbimlomdlaaGreatAmS
import Derived.Test.YtljhnbimlomdlaaGreatSCD
import Derived.Test.YtljhnbimlomdlaaGreatS16a
import Derived.Test.YtljhnbimlomdlaaGreatS16b
import Derived.Test.YtljhnbimlomdlaaGreatS16
set_option linter.unusedVariables false
set_option linter.unusedSimpArgs false
set_option linter.unusedSectionVars false
namespace Go.AM
open Go Go.Proofs
theorem rs_sound (n : Nat) : SoundCall E (rs n) := scallN_sound E_good E_mix _ tab_ok scs1_ok n
def sc5 : SC := fun args _ => match args with
  | [] => some (.bool true)
  | _ => none
theorem sc5_ok : SCok E (5, sc5) := by
  intro base args m v h
  simp only [sc5] at h
  split at h
  · simp only [Option.some.injEq] at h
    subst h
    exact one_flat ((rs_sound 200).one alive_run (by decide)) rfl rfl base m
  · simp at h
noncomputable def scs : List (Nat × SC) := [(5, sc5), (41, sc41), (71, sc71)]
theorem scs_ok : ∀ p ∈ scs, SCok E p := by
  intro p hp
  simp only [scs, List.mem_cons, List.not_mem_nil, or_false] at hp
  rcases hp with rfl | rfl | rfl
  · exact sc5_ok
  · exact scs1_ok _ (by simp [scs1])
  · exact scs1_ok _ (by simp [scs1])
noncomputable def rt (n : Nat) : CallF := scallN scs E.pure tab n
theorem rt_sound (n : Nat) : SoundCall E (rt n) := scallN_sound E_good E_mix _ tab_ok scs_ok n
theorem rt_imp {f : FuncId} {rf : RF} (hs : sfind f scs = none) (hf : rfind f tab = some rf) (hp : E.pure f = false) (n base : Nat) (args : List Value) (m : M) : rt (n + 1) base f args m = rf (rt n) n base args m := by
  show scallN scs E.pure tab (n + 1) base f args m = _
  unfold scallN
  simp only [scall, hs, hf, hp]
  rfl
theorem rt_pure {f : FuncId} {rf : RF} (hs : sfind f scs = none) (hf : rfind f tab = some rf) (hp : E.pure f = true) (n base : Nat) (args : List Value) (m m1 : M) (v : Value) (h : rf (rt n) n m.length args m = some (.ret v, m1)) (hv : vflat v = true) : rt (n + 1) base f args m = some (.ret v, m) := by
  show scallN scs E.pure tab (n + 1) base f args m = _
  unfold scallN
  simp only [scall, hs, hf, hp, xlen_eq, fNat_eq]
  have h' : rf (scallN scs E.pure tab n) n m.length args m = some (.ret v, m1) := h
  rw [h']
  simp only [hv]
theorem rt_sc {f : FuncId} {args : List Value} {m : M} {v : Value} (h : scall scs f args m = some v) (n base : Nat) : rt (n + 1) base f args m = some (.ret v, m) := by
  show scallN scs E.pure tab (n + 1) base f args m = _
  unfold scallN
  rw [h]
theorem rt5 (n base : Nat) (m : M) : rt (n + 1) base 5 [] m = some (.ret (.bool true), m) := rt_sc (by kernel_rfl) n base
theorem t41 (n base : Nat) (x y x' y' : Int) (m : M) : rt (n + 1) base 41 [rV x y, rV x' y'] m = some (.ret (vi (cmpN x y x' y')), m) := rt_sc (by kernel_rfl) n base
theorem t71 (n base : Nat) {a b x y : Int} (ha : small40 a = true) (hb : small40 b = true) (hx : small40 x = true) (hy : small40 y = true) (m : M) : rt (n + 1) base 71 [rV a b, vi x, vi y] m = some (.ret (rV (a + x) (b + y)), m) := by
  refine rt_sc ?_ n base
  have e : scall scs 71 [rV a b, vi x, vi y] m = if small40 a && small40 b && small40 x && small40 y then some (ratV (a + x, b + y)) else none := by kernel_rfl
  rw [e, ha, hb, hx, hy]
  rfl
end Go.AM
