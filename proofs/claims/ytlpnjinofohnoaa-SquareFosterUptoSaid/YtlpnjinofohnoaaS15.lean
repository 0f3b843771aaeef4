import Derived.Test.YtlpnjinofohnoaaS80
set_option linter.unusedVariables false
set_option linter.unusedSimpArgs false
/- The awake part of all laws of layer 1, run by the kernel: 60 s, 9.1 GB. -/
namespace Go.AM
open Go Go.Proofs
theorem alive_run : rs 200 0 15 [] [] = some (.ret (.bool true), []) := by kernel_rfl

def sc15 : SC := fun args _ => match args with
  | [] => some (.bool true)
  | _ => none
theorem sc15_ok : SCok E (15, sc15) := by
  intro base args m v h
  simp only [sc15] at h
  split at h
  · simp only [Option.some.injEq] at h
    subst h
    exact one_flat ((rs_sound 200).one alive_run) rfl rfl base m
  · simp at h
end Go.AM
