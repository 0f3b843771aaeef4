import Derived.KernelRfl
import Derived.Laws.BytesArg
import Derived.Laws.StructEq
import Derived.RangeFuncLeaves
import Derived.RangeFuncRecord
import Derived.Test.YtljhnbimlomdlaaGreatProg
import Derived.Test.YtljhnbimlomdlaaGreatRows
import Derived.WalkKit
import Derived.Test.YtljhnbimlomdlaaGreatAmB
import Derived.Test.YtljhnbimlomdlaaGreatAmG
import Derived.Test.YtljhnbimlomdlaaGreatAmModel
import Derived.Test.YtljhnbimlomdlaaGreatAmRel
import Derived.Test.YtljhnbimlomdlaaGreatAmOps6
import Derived.Test.YtljhnbimlomdlaaGreatAmCode
import Derived.Test.YtljhnbimlomdlaaGreatAmDraw5
import Derived.Test.YtljhnbimlomdlaaGreatAmEq
import Derived.Test.YtljhnbimlomdlaaGreatRBase
import Derived.Test.YtljhnbimlomdlaaGreatR31
import Derived.Test.YtljhnbimlomdlaaGreatR63
import Derived.Test.YtljhnbimlomdlaaGreatR93
import Derived.Test.YtljhnbimlomdlaaGreatAmS
import Derived.Test.YtljhnbimlomdlaaGreatSCD
import Derived.Test.YtljhnbimlomdlaaGreatS16a
import Derived.Test.YtljhnbimlomdlaaGreatS16b
set_option linter.unusedVariables false
set_option linter.unusedSimpArgs false
set_option linter.unusedSectionVars false
namespace Go.AM
open Go Go.Proofs
theorem set_new (m : M) (a b : Row) : (m ++ [a]).set m.length b = m ++ [b] := by simp
theorem rs_pure {f : FuncId} {rf : RF} (hs : sfind f scs1 = none) (hf : rfind f tab = some rf) (hp : E.pure f = true) (n base : Nat) (args : List Value) (m m1 : M) (v : Value) (h : rf (rs n) n m.length args m = some (.ret v, m1)) (hv : vflat v = true) : rs (n + 1) base f args m = some (.ret v, m) := by
  show scallN scs1 E.pure tab (n + 1) base f args m = _
  unfold scallN
  simp only [scall, hs, hf, hp, xlen_eq, fNat_eq]
  have h' : rf (scallN scs1 E.pure tab n) n m.length args m = some (.ret v, m1) := h
  rw [h']
  simp only [hv]
theorem rs_imp {f : FuncId} {rf : RF} (hs : sfind f scs1 = none) (hf : rfind f tab = some rf) (hp : E.pure f = false) (n base : Nat) (args : List Value) (m : M) : rs (n + 1) base f args m = rf (rs n) n base args m := by
  show scallN scs1 E.pure tab (n + 1) base f args m = _
  unfold scallN
  simp only [scall, hs, hf, hp]
  rfl
abbrev tT : Value := .slice (some ⟨89, 0, none⟩) 4 8
abbrev rR : Value := .slice (some ⟨0, 0, none⟩) 2 2
theorem ext0 (a b : Value) : mextract 0 (.tuple #[a, b]) = some a := rfl
theorem ext1 (a b : Value) : mextract 1 (.tuple #[a, b]) = some b := rfl
theorem notT : mun .not (.bool true) = some (.bool false) := rfl
theorem neq70 (a : Addr) (n c : Nat) : mbin E .neq 70 (.slice (some a) n c) (.slice none 0 0) = some (.bool true) := by kernel_rfl
theorem eql70 (a : Addr) (n c : Nat) : mbin E .eql 70 (.slice (some a) n c) (.slice none 0 0) = some (.bool false) := by kernel_rfl
theorem ld44g {m : M} {r : Nat} {a0 a1 a2 a3 a4 : Value} (h : m[r]? = some (cellR [a0, a1, a2, a3, a4])) : xload E.P m 44 (pt r (0 + 0)) = some (.agg #[a0, a1, a2]) := ld44 h (by simp [cellR])
theorem lenG : g1.length ≤ gA.length := Nat.le_of_ble_eq_true (by kernel_rfl)
theorem run12 : rs 199 0 12 [rR, tT] g1 = some (.ret (.tuple #[.slice none 0 0, .int .i64 10]), g1) := by
  refine rs_pure (f := 12) (rf := rf12) (by kernel_rfl) (by kernel_rfl) (by kernel_rfl) 198 0 _ g1 gC _ ?_ (by kernel_rfl)
  show r12 (rs 198) 198 g1.length rR tT g1 = _
  unfold r12
  rw [k1_fun, gA_run, kcs, ext0, k1s, ext1, k1s, al47, k2s, st47 lenG get_new (by kernel_rfl), kss, set_new, notT, k1s, kbf, ff47_0, k1s, ld44g get_new, k1s, gB_run, kcs, gC_run, kcs, ext0, k1s, ext1, k1s, neq70, k1s, kbt]
theorem hx4 : hD[g1.length]? = some (cellR [.slice none 0 0, .int .i64 0]) := by kernel_rfl
def hE : M := hD.set g1.length (cellR [.slice (some ⟨395, 0, none⟩) 4 4, .int .i64 3])
theorem run13 : rs 199 0 13 [rR, tT] g1 = some (.ret (.tuple #[.agg #[.slice (some ⟨395, 0, none⟩) 4 4, .int .i64 3], .int .i64 0]), hE) := by
  rw [rs_imp (f := 13) (rf := rf13) (by kernel_rfl) (by kernel_rfl) (by kernel_rfl)]
  show r13 (rs 198) 198 0 rR tT g1 = _
  unfold r13
  rw [k1_fun, al26, k2s, hA_run, kcs, ext0, k1s, ext1, k1s, al47, k2s, st47 (Nat.zero_le _) get_new (by kernel_rfl), kss, set_new, notT, k1s, kbf, ff47_0, k1s, ld44g get_new, k1s, hB_run, kcs, hC_run, kcs, ext0, k1s, ext1, k1s, eql70, k1s, kbf, hD_run, kcs, st26 (Nat.zero_le _) hx4 (by kernel_rfl), kss, ml26 (by rw [List.getElem?_set_self (List.getElem?_eq_some_iff.1 hx4).1]), k0s]
  rfl
theorem run6 : rs 199 0 6 [rR, tT, .agg #[.slice (some ⟨395, 0, none⟩) 4 4, .int .i64 3]] (hE ++ [cellR [.slice (some ⟨395, 0, none⟩) 4 4, .int .i64 3]]) = some (.ret (.tuple #[.bool true, .int .i64 0]), hE ++ [cellR [.slice (some ⟨395, 0, none⟩) 4 4, .int .i64 3]]) := by kernel_rfl
theorem run11 : rs 199 0 11 [] [rowz 1 true [.string (ByteArray.mk #[35, 35]), .string (ByteArray.mk #[35, 35])]] = some (.ret (.slice (some ⟨1, 0, none⟩) 3 3), g0) := by kernel_rfl
theorem bs22 : xbuildSlice E.P [] 22 2 [(0, .string (ByteArray.mk #[35, 35])), (1, .string (ByteArray.mk #[35, 35]))] = some (rR, [rowz 1 true [.string (ByteArray.mk #[35, 35]), .string (ByteArray.mk #[35, 35])]]) := by kernel_rfl
theorem eq29 (a b : Int) : mbin E .eql 29 (.int .i64 a) (.int .i64 b) = some (.bool (decide (a = b))) := eql29 a b
theorem eq3 (a b : Int) : mbin E .eql 3 (.int .i64 a) (.int .i64 b) = some (.bool (decide (a = b))) := eql3 a b
theorem alive_run : rs 200 0 5 [] [] = some (.ret (.bool true), []) := by
  refine rs_pure (f := 5) (rf := rf5) (by kernel_rfl) (by kernel_rfl) (by kernel_rfl) 199 0 _ [] (hE ++ [cellR [.slice (some ⟨395, 0, none⟩) 4 4, .int .i64 3]]) _ ?_ (by kernel_rfl)
  show r5 (rs 199) 199 0 [] = _
  unfold r5
  rw [k1_fun, vcall_fun, fVal_fun, bs22, k2s, run11, kcs, run10, kcs, ext0, k1s, ext1, k1s, run12, kcs, ext0, k1s, ext1, k1s, run13, kcs, ext0, k1s, ext1, k1s, al26, k2s, st26 (Nat.zero_le _) get_new (by kernel_rfl), kss, set_new, ldb26 get_new, k1s, run6, kcs, ext0, k1s, ext1, k1s, eq29, k1s, decide_eq_true (by rfl), kbt, AM.len23, k2s, show (vi ((4 : Nat) : Int) : Value) = .int .i64 4 from rfl, eq3, k1s, decide_eq_true (by rfl), kbt, eq29, k1s, decide_eq_true (by rfl), kbt, k1s, kbt, k1s, kbt]
end Go.AM
