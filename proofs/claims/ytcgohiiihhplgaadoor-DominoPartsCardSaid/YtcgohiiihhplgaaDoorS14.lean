import Derived.Carry
import Derived.Handy
import Derived.KernelRfl
import Derived.Laws.BytesArg
import Derived.Laws.StructEq
import Derived.Maps.AppendAt
import Derived.Maps.OwnOps
import Derived.Maps.RangeRun
import Derived.Maps.RangeWalk
import Derived.Test.YtcgohiiihhplgaaDoorRows
import Derived.WalkKit
import Derived.Test.YtcgohiiihhplgaaDoorAmB
import Derived.Test.YtcgohiiihhplgaaDoorAmModel
import Derived.Test.YtcgohiiihhplgaaDoorAmOps6
import Derived.Test.YtcgohiiihhplgaaDoorAmCode
import Derived.Test.YtcgohiiihhplgaaDoorAmK2
import Derived.Test.YtcgohiiihhplgaaDoorAmEq
import Derived.Test.YtcgohiiihhplgaaDoorRBase
import Derived.Test.YtcgohiiihhplgaaDoorB1
import Derived.Test.YtcgohiiihhplgaaDoorK1
import Derived.Test.YtcgohiiihhplgaaDoorR6
import Derived.Test.YtcgohiiihhplgaaDoorR41
import Derived.Test.YtcgohiiihhplgaaDoorR42
import Derived.Test.YtcgohiiihhplgaaDoorD3
import Derived.Test.YtcgohiiihhplgaaDoorK3
import Derived.Test.YtcgohiiihhplgaaDoorAmS
import Derived.Test.YtcgohiiihhplgaaDoorK4
import Derived.Test.YtcgohiiihhplgaaDoorK5
import Derived.Test.YtcgohiiihhplgaaDoorK6
import Derived.Test.YtcgohiiihhplgaaDoorS13
set_option linter.unusedVariables false
set_option linter.unusedSimpArgs false
set_option linter.unusedSectionVars false
namespace Go.AM
open Go Go.Proofs
def sc13 : SC := fun args _ => match args with
  | [] => some (.bool true)
  | _ => none
theorem sc13_ok : SCok E (13, sc13) := by
  intro base args m v h
  simp only [sc13] at h
  split at h
  · simp only [Option.some.injEq] at h
    subst h
    exact one_flat ((rs_sound 200).one alive_run) rfl rfl base m
  · simp at h
def scs : List (Nat × SC) := [(13, sc13), (52, sc52), (93, sc93)]
theorem scs_ok : ∀ p ∈ scs, SCok E p := by
  intro p hp
  simp only [scs, List.mem_cons, List.not_mem_nil, or_false] at hp
  rcases hp with rfl | rfl | rfl
  · exact sc13_ok
  · exact sc52_ok
  · exact sc93_ok
noncomputable def rt (n : Nat) : CallF := scallN scs E.pure tab n
theorem rt_sound (n : Nat) : SoundCall E (rt n) := scallN_sound E_good E_mix _ tab_ok scs_ok n
theorem rt_imp {f : FuncId} {rf : RF} (hs : sfind f scs = none) (hf : rfind f tab = some rf) (hp : E.pure f = false) (n base : Nat) (args : List Value) (m : M) : rt (n + 1) base f args m = rf (rt n) n base args m := by
  show scallN scs E.pure tab (n + 1) base f args m = _
  unfold scallN
  simp only [scall, hs, hf, hp]
  rfl
theorem rt_pure {f : FuncId} {rf : RF} (hs : sfind f scs = none) (hf : rfind f tab = some rf) (hp : E.pure f = true) (n base : Nat) (args : List Value) (m m1 : M) (v : Value) (h : rf (rt n) n m.length args m = some (.ret v, m1)) (hv : vflat v = true) : rt (n + 1) base f args m = some (.ret v, m) := by
  show scallN scs E.pure tab (n + 1) base f args m = _
  unfold scallN
  simp only [scall, hs, hf, hp, xlen_eq, fNat_eq]
  have h' : rf (scallN scs E.pure tab n) n m.length args m = some (.ret v, m1) := h
  rw [h']
  simp only [hv]
theorem rt13 (n base : Nat) (m : M) : rt (n + 1) base 13 [] m = some (.ret (.bool true), m) := by
  show scallN scs E.pure tab (n + 1) base 13 [] m = _
  unfold scallN
  have : scall scs 13 [] m = some (.bool true) := by kernel_rfl
  rw [this]
end Go.AM
