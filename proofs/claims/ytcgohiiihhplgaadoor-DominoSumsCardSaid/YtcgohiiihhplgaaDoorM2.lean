import Derived.Carry
import Derived.Handy
import Derived.KernelRfl
import Derived.Laws.BytesArg
import Derived.Laws.StructEq
import Derived.Maps.AppendAt
import Derived.Maps.OwnOps
import Derived.Maps.RangeRun
import Derived.Maps.RangeWalk
import Derived.Test.YtcgohiiihhplgaaDoorRows
import Derived.WalkKit
import Derived.Test.YtcgohiiihhplgaaDoorAmB
import Derived.Test.YtcgohiiihhplgaaDoorAmModel
import Derived.Test.YtcgohiiihhplgaaDoorAmOps6
import Derived.Test.YtcgohiiihhplgaaDoorAmCode
import Derived.Test.YtcgohiiihhplgaaDoorAmK2
import Derived.Test.YtcgohiiihhplgaaDoorAmEq
import Derived.Test.YtcgohiiihhplgaaDoorRBase
import Derived.Test.YtcgohiiihhplgaaDoorB1
import Derived.Test.YtcgohiiihhplgaaDoorK1
import Derived.Test.YtcgohiiihhplgaaDoorR9
import Derived.Test.YtcgohiiihhplgaaDoorR41
import Derived.Test.YtcgohiiihhplgaaDoorR47
import Derived.Test.YtcgohiiihhplgaaDoorD3
import Derived.Test.YtcgohiiihhplgaaDoorK3
import Derived.Test.YtcgohiiihhplgaaDoorAmS
import Derived.Test.YtcgohiiihhplgaaDoorK4
import Derived.Test.YtcgohiiihhplgaaDoorK5
import Derived.Test.YtcgohiiihhplgaaDoorK6
import Derived.Test.YtcgohiiihhplgaaDoorS13
import Derived.Test.YtcgohiiihhplgaaDoorS14
import Derived.Test.YtcgohiiihhplgaaDoorD0
import Derived.Test.YtcgohiiihhplgaaDoorDet1
import Derived.Test.YtcgohiiihhplgaaDoorDH1
import Derived.Test.YtcgohiiihhplgaaDoorD4
import Derived.Test.YtcgohiiihhplgaaDoorM1
set_option linter.unusedVariables false
set_option linter.unusedSimpArgs false
set_option linter.unusedSectionVars false
namespace Go.AM
open Go Go.Proofs
open Go.AM.Kuhn hiding Run St
/-- Neighbours. -/
def adj (i j : Nat) : Prop := (nbB (one i)).getLsbD j = true
def adjB (i j : Nat) : Bool := (nbB (one i)).getLsbD j
theorem nb_one (s : B) (j : Nat) (hj : j < 64) : (nbB s).getLsbD j = true ↔ ∃ i, i < 64 ∧ s.getLsbD i = true ∧ adjB i j = true := by
  have key : ∀ i, i < 64 → (adjB i j = true ↔ (j % 8 ≠ 7 ∧ i = j + 1) ∨ (j % 8 ≠ 0 ∧ i = j - 1) ∨ i = j + 8 ∨ (8 ≤ j ∧ i = j - 8)) := by
    intro i hi
    unfold adjB
    rw [nb_get _ _ hj, one_get _ _ hi, one_get _ _ hi, one_get _ _ hi, one_get _ _ hi]
    simp only [Bool.or_eq_true, Bool.and_eq_true, decide_eq_true_eq, ne_eq, decide_not, Bool.not_eq_true', decide_eq_false_iff_not]
    omega
  rw [nb_get _ _ hj]
  simp only [Bool.or_eq_true, Bool.and_eq_true, decide_eq_true_eq]
  constructor
  · rintro (((⟨h1, h2⟩ | ⟨h1, h2⟩) | h2) | ⟨h1, h2⟩)
    · exact ⟨j + 1, get_lt h2, h2, (key _ (get_lt h2)).2 (.inl ⟨h1, rfl⟩)⟩
    · exact ⟨j - 1, get_lt h2, h2, (key _ (get_lt h2)).2 (.inr (.inl ⟨h1, rfl⟩))⟩
    · exact ⟨j + 8, get_lt h2, h2, (key _ (get_lt h2)).2 (.inr (.inr (.inl rfl)))⟩
    · exact ⟨j - 8, get_lt h2, h2, (key _ (get_lt h2)).2 (.inr (.inr (.inr ⟨h1, rfl⟩)))⟩
  · rintro ⟨i, hi, hs, ha⟩
    rcases (key i hi).1 ha with ⟨h1, rfl⟩ | ⟨h1, rfl⟩ | rfl | ⟨h1, rfl⟩
    · exact .inl (.inl (.inl ⟨h1, hs⟩))
    · exact .inl (.inl (.inr ⟨h1, hs⟩))
    · exact .inl (.inr hs)
    · exact .inr ⟨h1, hs⟩
theorem all2 {p : Nat → Nat → Bool} (h : (List.range 64).all (fun i => (List.range 64).all fun j => p i j) = true) (i j : Nat) (hi : i < 64) (hj : j < 64) : p i j = true :=
  List.all_eq_true.1 (List.all_eq_true.1 h i (List.mem_range.2 hi)) j (List.mem_range.2 hj)
theorem adj_symm (i j : Nat) (hi : i < 64) (hj : j < 64) : adjB i j = adjB j i := by
  have := all2 (p := fun i j => adjB i j == adjB j i) (by decide +kernel) i j hi hj
  simpa using this
/-- All that is in the list are single cells. -/
def Ones (mate : List B) : Prop := mate.length = 64 ∧ ∀ x ∈ mate, x = 0 ∨ ∃ i, i < 64 ∧ x = one i
theorem Ones.get {mate : List B} (h : Ones mate) (i : Nat) : mate.getD i 0 = 0 ∨ ∃ k, k < 64 ∧ mate.getD i 0 = one k := by
  by_cases hi : i < mate.length
  · have : mate.getD i 0 = mate[i] := by simp [List.getD, hi]
    rw [this]
    exact h.2 _ (List.getElem_mem hi)
  · left; simp [List.getD, List.getElem?_eq_none (show mate.length ≤ i by omega)]
theorem Ones.set {mate : List B} (h : Ones mate) (k j : Nat) (hj : j < 64) : Ones (mate.set k (one j)) := by
  refine ⟨by simp [h.1], fun x hx => ?_⟩
  rcases List.mem_or_eq_of_mem_set hx with h1 | rfl
  · exact h.2 x h1
  · exact .inr ⟨j, hj, rfl⟩
end Go.AM
namespace Go.AM
open Go Go.Proofs
open Go.AM.Kuhn hiding Run St
/-- The numbers of a set's cells, in order. -/
def bitsL (s : B) : List Nat := (List.range 64).filter fun i => s.getLsbD i
theorem bitsL_nodup (s : B) : (bitsL s).Nodup := List.Pairwise.filter _ List.nodup_range
theorem bitsL_mem (s : B) (i : Nat) : i ∈ bitsL s ↔ s.getLsbD i = true := by
  unfold bitsL
  rw [List.mem_filter, List.mem_range]
  exact ⟨fun h => h.2, fun h => ⟨get_lt h, h⟩⟩
/-- Pigeons. -/
theorem nodup_len : ∀ {l l' : List Nat}, l.Nodup → (∀ x ∈ l, x ∈ l') → l.length ≤ l'.length
  | [], l', _, _ => Nat.zero_le _
  | x :: l, l', hn, h => by
    rw [List.nodup_cons] at hn
    have hx := h x (List.mem_cons_self ..)
    have := nodup_len (l := l) (l' := l'.erase x) hn.2 fun y hy => by
      have : y ≠ x := fun e => hn.1 (e ▸ hy)
      exact (List.mem_erase_of_ne this).2 (h y (List.mem_cons_of_mem _ hy))
    have h2 := List.length_erase_of_mem hx
    have h3 := List.length_pos_of_mem hx
    simp only [List.length_cons]
    omega
end Go.AM
namespace Go.AM
open Go Go.Proofs
open Go.AM.Kuhn hiding Run St
theorem adjB_iff (i j : Nat) (hi : i < 64) (hj : j < 64) : adjB i j = true ↔ (j % 8 ≠ 7 ∧ i = j + 1) ∨ (j % 8 ≠ 0 ∧ i = j - 1) ∨ i = j + 8 ∨ (8 ≤ j ∧ i = j - 8) := by
  unfold adjB
  rw [nb_get _ _ hj, one_get _ _ hi, one_get _ _ hi, one_get _ _ hi, one_get _ _ hi]
  simp only [Bool.or_eq_true, Bool.and_eq_true, decide_eq_true_eq, ne_eq, decide_not, Bool.not_eq_true', decide_eq_false_iff_not]
  omega
theorem right_one (l : Nat) (h : l < 64) : rightB (one l) = if l % 8 = 7 then 0 else one (l + 1) := by
  have := all64 (p := fun l => rightB (one l) == if l % 8 = 7 then 0 else one (l + 1)) (by decide +kernel) l h
  simpa using this
theorem below_one (l : Nat) (h : l < 64) : belowB (one l) = if 56 ≤ l then 0 else one (l + 8) := by
  have := all64 (p := fun l => belowB (one l) == if 56 ≤ l then 0 else one (l + 8)) (by decide +kernel) l h
  simpa using this
/-- What is left when two cells are taken. -/
def less2 (s : B) (l j : Nat) : B := s &&& ~~~(one l ||| one j)
theorem less2_get (s : B) (l j i : Nat) (hl : l < 64) (hj : j < 64) : (less2 s l j).getLsbD i = true ↔ s.getLsbD i = true ∧ i ≠ l ∧ i ≠ j := by
  unfold less2
  rw [sub_get, or_get, one_get _ _ hl, one_get _ _ hj]
  simp
theorem less2_unc {s : B} {l j : Nat} (hl : l < 64) (hj : j < 64) (h : s.getLsbD l = true) : unc s < unc (less2 s l j) := by
  refine unc_lt (fun i hi => ((less2_get s l j i hl hj).1 hi).1) hl ?_ h
  cases e : (less2 s l j).getLsbD l with
  | false => rfl
  | true => exact absurd rfl ((less2_get s l j l hl hj).1 e).2.1
theorem and_one {s : B} {j : Nat} (hj : j < 64) : s &&& one j ≠ 0 ↔ s.getLsbD j = true := by
  constructor
  · intro h
    obtain ⟨i, hi, hg⟩ := B_ne h
    rw [and_get, one_get _ _ hj, Bool.and_eq_true, decide_eq_true_eq] at hg
    rw [← hg.2]; exact hg.1
  · intro h
    refine ne_of_get (i := j) ?_
    rw [and_get, one_get _ _ hj, h]; simp
/-- The tilings of a set, by the domino at its first cell. -/
theorem NT_first {s : B} {l : Nat} (hsl : s.getLsbD l = true) (hlow : ∀ j, j < l → s.getLsbD j = false) :
    NT s = (if l % 8 ≠ 7 ∧ s.getLsbD (l + 1) = true then NT (less2 s l (l + 1)) else 0) + (if l < 56 ∧ s.getLsbD (l + 8) = true then NT (less2 s l (l + 8)) else 0) := by
  have hl := get_lt hsl
  rw [NT_rec (ne_of_get hsl), low_of hsl hlow, right_one l hl, below_one l hl]
  congr 1
  · by_cases h : l % 8 = 7
    · rw [if_pos h, if_neg (by simp), if_neg (fun x => x.1 h)]
    · rw [if_neg h]
      have hj : l + 1 < 64 := by omega
      by_cases h2 : s.getLsbD (l + 1) = true
      · rw [if_pos ((and_one hj).2 h2), if_pos ⟨h, h2⟩]; rfl
      · rw [if_neg (fun x => h2 ((and_one hj).1 x)), if_neg (fun x => h2 x.2)]
  · by_cases h : 56 ≤ l
    · rw [if_pos h, if_neg (by simp), if_neg (fun x => by omega)]
    · rw [if_neg h]
      have hj : l + 8 < 64 := by omega
      by_cases h2 : s.getLsbD (l + 8) = true
      · rw [if_pos ((and_one hj).2 h2), if_pos ⟨by omega, h2⟩]; rfl
      · rw [if_neg (fun x => h2 ((and_one hj).1 x)), if_neg (fun x => h2 x.2)]
theorem adj_next {l j : Nat} (hl : l < 64) (hj : j < 64) (hlt : l < j) : adjB l j = true ↔ (l % 8 ≠ 7 ∧ j = l + 1) ∨ (l < 56 ∧ j = l + 8) := by
  rw [adjB_iff l j hl hj]; omega
end Go.AM
namespace Go.AM
open Go Go.Proofs
def cellB (x y : Int) : B := if 0 ≤ x ∧ x < 8 ∧ 0 ≤ y ∧ y < 8 then one (y * 8 + x).toNat else 0
theorem i_lss (a b : Int) : mbin E .lss 3 (vi a) (vi b) = some (.bool (decide (a < b))) := rfl
theorem i_geq (a b : Int) : mbin E .geq 3 (vi a) (vi b) = some (.bool (decide (b ≤ a))) := rfl
theorem i_gtr (a b : Int) : mbin E .gtr 3 (vi a) (vi b) = some (.bool (decide (b < a))) := rfl
theorem b_shli (a : B) (n : Int) (h0 : 0 ≤ n) (h : n ≤ 64) : mbin E .shl 58 (vb a) (vi n) = some (vb (a <<< n.toNat)) := by
  have e : mbin E .shl 58 (vb a) (vi n) = if n < 0 then none else some (.int .u64 (IntKind.u64.wrap ((a.toNat : Int) * 2 ^ (min n.toNat 64)))) := rfl
  rw [e, if_neg (by omega), wrap_u64]
  have h1 : min n.toNat 64 = n.toNat := by omega
  rw [h1]
  unfold vb
  congr 2
  rw [BitVec.toNat_shiftLeft, Nat.shiftLeft_eq, Int.natCast_emod, Int.natCast_mul, Int.natCast_pow]
  rfl
theorem t69 (n base : Nat) (x y : Int) (m : M) : rt (n + 1) base 69 [vi x, vi y] m = some (.ret (vb (cellB x y)), m) :=
  rt_pure (f := 69) (rf := rf69) (by kernel_rfl) (by kernel_rfl) (by kernel_rfl) n base _ m m _ (by
    show r69 (rt n) n m.length (vi x) (vi y) m = _
    unfold r69
    rw [k1_fun, fVal_fun, show (.int .i64 0 : Value) = vi 0 from rfl, show (.int .i64 8 : Value) = vi 8 from rfl, show (.int .u64 0 : Value) = vb 0 from rfl, show (.int .u64 1 : Value) = vb 1 from rfl]
    simp only [i_lss, i_geq, k1n]
    unfold cellB
    by_cases h1 : x < 0
    · rw [decide_eq_true h1, if_neg (by omega)]; rfl
    by_cases h2 : 8 ≤ x
    · rw [decide_eq_false h1, decide_eq_true h2, if_neg (by omega)]; rfl
    by_cases h3 : y < 0
    · rw [decide_eq_false h1, decide_eq_false h2, decide_eq_true h3, if_neg (by omega)]; rfl
    by_cases h4 : 8 ≤ y
    · rw [decide_eq_false h1, decide_eq_false h2, decide_eq_false h3, decide_eq_true h4, if_neg (by omega)]; rfl
    rw [decide_eq_false h1, decide_eq_false h2, decide_eq_false h3, decide_eq_false h4, if_pos (by omega)]
    have e1 : mbin E .mul 3 (vi y) (vi 8) = some (vi (wr (y * 8))) := rfl
    have e2 : mbin E .add 3 (vi (y * 8)) (vi x) = some (vi (wr (y * 8 + x))) := rfl
    rw [e1, wr_id (by omega) (by omega)]
    simp only [kb]
    rw [e2, wr_id (by omega) (by omega)]
    simp only
    rw [b_shli 1 _ (by omega) (by omega)]
    rfl) rfl
abbrev Dom := Int × Int × Bool
def dV (d : Dom) : List Value := [vi d.1, vi d.2.1, .bool d.2.2]
def dsV (l : List Dom) : List Value := l.flatMap dV
theorem ld3c (m : M) (r off : Nat) : xload E.P m 3 (pt r off) = mcell m r off := by
  have e : xload E.P m 3 (pt r off) = xcell m r off := by kernel_rfl
  rw [e, xcell_eq]
end Go.AM
namespace Go.AM
open Go Go.Proofs
def Mk (c : Nat) : Nat → Nat
  | 0 => 0
  | n + 1 => c + 256 * Mk c n
def g1 (a : Nat) : Nat := (a / 2 &&& 0x55) + (a &&& 0x55)
def g2 (a : Nat) : Nat := (a / 4 &&& 0x33) + (a &&& 0x33)
def g3 (a : Nat) : Nat := (a / 16 + a) &&& 0x0f
def f1 (n x : Nat) : Nat := (x / 2 &&& Mk 0x55 n) + (x &&& Mk 0x55 n)
def f2 (n x : Nat) : Nat := (x / 4 &&& Mk 0x33 n) + (x &&& Mk 0x33 n)
def cntN : Nat → Nat → Nat
  | 0, _ => 0
  | n + 1, x => x % 2 + cntN n (x / 2)
theorem cntN_filter : ∀ (n x : Nat), ((List.range n).filter fun i => x.testBit i).length = cntN n x
  | 0, _ => rfl
  | n + 1, x => by
    rw [List.range_succ_eq_map, List.filter_cons, List.filter_map]
    have e : ((fun i => x.testBit i) ∘ Nat.succ) = fun i => (x / 2).testBit i := by
      funext i
      exact Nat.testBit_succ x i
    rw [e]
    show _ = x % 2 + cntN n (x / 2)
    rw [← cntN_filter n (x / 2)]
    by_cases h : x.testBit 0 = true
    · rw [if_pos h, List.length_cons, List.length_map]
      have : x % 2 = 1 := by simpa [Nat.testBit_zero] using h
      omega
    · rw [if_neg h, List.length_map]
      have : x % 2 = 0 := by
        have : ¬ (x % 2 = 1) := by simpa [Nat.testBit_zero] using h
        omega
      omega
/-- The number of cells. -/
def pc (s : B) : Nat := cntN 64 s.toNat
theorem pc_len (s : B) : pc s = ((List.range 64).filter fun i => s.getLsbD i).length := (cntN_filter 64 s.toNat).symm
end Go.AM
namespace Go.AM
open Go Go.Proofs
abbrev Cel := Int × Int
def cV (d : Cel) : List Value := [vi d.1, vi d.2]
def csV (l : List Cel) : List Value := l.flatMap cV
end Go.AM
namespace Go.AM
open Go Go.Proofs
def orM (mate : List B) : List B → B → B
  | [], a => a
  | c :: cs, a => orM mate cs (a ||| mate.getD (tz c) 0)
def stepR (s : B) (mate : List B) (r : B) : B := orM mate (sing 64 (nbB r &&& s)) r
inductive Reach (s : B) (mate : List B) : B → B → Prop
  | refl (r : B) : Reach s mate r r
  | step {r R : B} (h : Reach s mate (stepR s mate r) R) : Reach s mate r R
end Go.AM
namespace Go.AM
open Go Go.Proofs
open Go.AM.Kuhn hiding Run St
theorem pc_bits (s : B) : pc s = (bitsL s).length := pc_len s
end Go.AM
namespace Go.AM
open Go Go.Proofs
def rowL (bs : ByteArray) (y : Nat) : Nat → Nat → B → B → Option (B × B)
  | 0, _, c, g => some (c, g)
  | k + 1, x, c, g => match bs[x]? with
    | none => none
    | some b => if b.toNat = 35 then rowL bs y k (x + 1) (c ||| cellB x y) g else if b.toNat = 46 then rowL bs y k (x + 1) c (g ||| cellB x y) else none
def rowsL (w : Nat) : List ByteArray → Nat → B → B → Option (B × B)
  | [], _, c, g => some (c, g)
  | bs :: l, y, c, g => if bs.size = w then (match rowL bs y w 0 c g with
      | none => none
      | some (c', g') => rowsL w l (y + 1) c' g') else none
abbrev mg (m0 : M) (z : List Value) (w h : Nat) (c g : B) : M := m0 ++ [cellR z, cellR [vi w, vi h, vb c, vb g]]
def reg0 : List Value := [vi 0, vi 0, vb 0, vb 0]
theorem len9 (base : Nat) (m : M) (s : ByteArray) : vcalln E.P base m .len [9] [.string s] = some (vi s.size, m) := by kernel_rfl
theorem idx9 (s : ByteArray) (j : Nat) : mindex E.P 9 (.string s) (vi j) = (s[j]?).map fun b => .int .u8 (b.toNat : Int) := by
  have e : mindex E.P 9 (.string s) (vi j) = if 0 ≤ (j : Int) then (s[(j : Int).toNat]?).map fun b => .int .u8 (b.toNat : Int) else none := by kernel_rfl
  rw [e, if_pos (by omega)]
  rfl
theorem eql5 (a : Nat) (b : Int) : mbin E .eql 5 (.int .u8 (a : Int)) (.int .u8 b) = some (.bool (decide ((a : Int) = b))) := by
  have e : mbin E .eql 5 (.int .u8 (a : Int)) (.int .u8 b) = some (.bool ((a : Int) == b)) := rfl
  rw [e]
  congr 2
theorem neq3 (a b : Nat) : mbin E .neq 3 (vi a) (vi b) = some (.bool (decide (a ≠ b))) := by
  have e : mbin E .neq 3 (vi a) (vi b) = some (.bool ((a : Int) != (b : Int))) := rfl
  rw [e]
  congr 2
  rw [Bool.eq_iff_iff]
  simp
  omega
theorem fa60 (p : Nat) : mfieldAddr E.P 60 (pt p 0) 0 = some (pt p 0) ∧ mfieldAddr E.P 60 (pt p 0) 2 = some (pt p 2) ∧ mfieldAddr E.P 60 (pt p 0) 3 = some (pt p 3) := by
  refine ⟨?_, ?_, ?_⟩ <;> kernel_rfl
theorem al60 (m : M) : xalloc E.P m 60 = some (pt m.length 0, m ++ [cellR reg0]) := by
  have e1 : xalloc E.P m 60 = xlen m fun n => xpush m (cellR reg0) fun m' => some (pt n 0, m') := by kernel_rfl
  rw [e1, xlen_eq, fNat_eq, xpush_eq, fList_eq]
theorem b60e : mbuild E.P 60 [] = some (.agg reg0.toArray) := by kernel_rfl
theorem b60 (w h : Int) : mbuild E.P 60 [(0, vi w), (1, vi h)] = some (.agg #[vi w, vi h, vb 0, vb 0]) := by kernel_rfl
theorem ld22c (m : M) (r off : Nat) : xload E.P m 9 (pt r off) = mcell m r off := by
  have e : xload E.P m 9 (pt r off) = xcell m r off := by kernel_rfl
  rw [e, xcell_eq]
theorem ix22 (p l c j : Nat) (h : j < l) : mindexAddr E.P 22 (.slice (some ⟨p, 0, none⟩) l c) (vi j) = some (pt p j) := by
  have e : mindexAddr E.P 22 (.slice (some ⟨p, 0, none⟩) l c) (vi j) = if 0 ≤ (j : Int) ∧ (j : Int) < l then some (.pointer (some ⟨p, 0 + ((j : Int)).toNat * 1, none⟩)) else none := by kernel_rfl
  rw [e, if_pos (by omega)]
  simp
theorem st60 (base : Nat) (m : M) (r : Nat) (hb : base ≤ r) (z z' : List Value) (hz : z.length = 4) (hz' : z'.length = 4) (ho : z'.all (·.oneCell') = true) (hr : m[r]? = some (cellR z)) : xstore E.P base m 60 (pt r 0) (.agg z'.toArray) = some (m.set r (cellR z')) := by
  have e3 : xstore E.P base m 60 (pt r 0) (.agg z'.toArray) = if z'.toArray.size = 4 then xwrite base m r 0 z'.toArray.toList else none := by kernel_rfl
  rw [e3, if_pos (by simpa using hz'), xwrite_eq]
  unfold mwrite
  rw [if_neg (by omega), hr, List.toList_toArray]
  have hle : 0 + z'.length ≤ (cellR z).cells.length := by show 0 + z'.length ≤ z.length; omega
  have hsp : splice (cellR z).cells 0 z' = z' := by
    unfold splice
    show List.take 0 z ++ z' ++ List.drop (0 + z'.length) z = z'
    rw [List.take_zero, List.nil_append, List.drop_eq_nil_of_le (by omega), List.append_nil]
  show (if (cellR z).ro = true then none else if 0 + z'.length ≤ (cellR z).cells.length then _ else none) = _
  rw [if_neg (by simp [cellR]), if_pos hle, if_pos ho, hsp, fList_eq, fList_eq]
  rfl
theorem st58f (base : Nat) (m : M) (r : Nat) (hb : base ≤ r) (k : Nat) (hk : k < 4) (z : List Value) (hz : z.length = 4) (x : B) (hr : m[r]? = some (cellR z)) : xstore E.P base m 58 (pt r k) (vb x) = some (m.set r (cellR (z.set k (vb x)))) := by
  rw [st58, mwrite_one hb hr rfl (by show k < z.length; omega) rfl]
  rfl
theorem r41_L0_s (call : CallF) (fuel base : Nat) (kr : Value → Value → M → Res2) (kx0 : Value → Value → M → Res2) (n : Nat) (x2 x4 x38 x39 x40 : Value) (m : M) : r41_L0 call fuel base kr kx0 (n + 1) x2 x4 x38 x39 x40 m =
    (k1n (mbin E .lss 3 x40 x39) fun v41_29 => (kb v41_29 (k1n (mindexAddr E.P 22 x38 x40) fun v43_30 => (k1n (xload E.P m 9 v43_30) fun v44_31 => (k2 (vcalln E.P base m .len [9] [v44_31]) fun v46_32 m => (k1n (mfieldAddr E.P 60 x4 0) fun v47_33 => (k1n (xload E.P m 3 v47_33) fun v48_34 => (k1n (mbin E .neq 3 v46_32 v48_34) fun v49_35 => (kb v49_35 (k1n (mbuild E.P 60 []) fun v50_36 => (ks (xstore E.P base m 60 x2 v50_36) fun m => (kr x2 (.bool false) m))) (k1n (mfieldAddr E.P 60 x4 0) fun v51_37 => (k1n (xload E.P m 3 v51_37) fun v52_38 => (r41_L2 call fuel base (fun y2_56 y3_57 m => (kr y2_56 y3_57 m)) (fun y2_58 y4_59 y38_60 y39_61 y40_62 m => (k1n (mbin E .add 3 y40_62 (.int .i64 1)) fun v79_63 => (r41_L0 call fuel base kr kx0 n y2_58 y4_59 y38_60 y39_61 v79_63 m))) fuel x2 x4 x40 v44_31 x38 x39 x40 v52_38 (.int .i64 0) m)))))))))) (kx0 x2 x4 m))) := by
  unfold r41_L0
  rw [k1_fun, vcall_fun]
theorem r41_L2_s (call : CallF) (fuel base : Nat) (kr : Value → Value → M → Res2) (kx2 : Value → Value → Value → Value → Value → M → Res2) (n : Nat) (x2 x4 x5 x6 x38 x39 x40 x52 x53 : Value) (m : M) : r41_L2 call fuel base kr kx2 (n + 1) x2 x4 x5 x6 x38 x39 x40 x52 x53 m =
    (k1n (mbin E .lss 3 x53 x52) fun v54_39 => (kb v54_39 (k1n (mindex E.P 9 x6 x53) fun v58_40 => (k1n (mbin E .eql 5 v58_40 (.int .u8 35)) fun v61_41 => (kb v61_41 (k1n (mfieldAddr E.P 60 x4 2) fun v62_42 => (k1n (xload E.P m 58 v62_42) fun v63_43 => (kc (kB m (call m.length 69 [x53, x5] m)) (fun v66_44 m => (k1n (mbin E .or 58 v63_43 v66_44) fun v67_45 => (k1n (mfieldAddr E.P 60 x4 2) fun v68_46 => (ks (xstore E.P base m 58 v68_46 v67_45) fun m => (k1n (mbin E .add 3 x53 (.int .i64 1)) fun v78_47 => (r41_L2 call fuel base kr kx2 n x2 x4 x5 x6 x38 x39 x40 x52 v78_47 m)))))) (fun _ _ => none)))) (k1n (mbin E .eql 5 v58_40 (.int .u8 46)) fun v70_48 => (kb v70_48 (k1n (mfieldAddr E.P 60 x4 3) fun v71_49 => (k1n (xload E.P m 58 v71_49) fun v72_50 => (kc (kB m (call m.length 69 [x53, x5] m)) (fun v75_51 m => (k1n (mbin E .or 58 v72_50 v75_51) fun v76_52 => (k1n (mfieldAddr E.P 60 x4 3) fun v77_53 => (ks (xstore E.P base m 58 v77_53 v76_52) fun m => (k1n (mbin E .add 3 x53 (.int .i64 1)) fun v78_54 => (r41_L2 call fuel base kr kx2 n x2 x4 x5 x6 x38 x39 x40 x52 v78_54 m)))))) (fun _ _ => none)))) (k1n (mbuild E.P 60 []) fun v59_55 => (ks (xstore E.P base m 60 x2 v59_55) fun m => (kr x2 (.bool false) m)))))))) (kx2 x2 x4 x38 x39 x40 m))) := by
  unfold r41_L2
  rw [k1_fun]
theorem mg_at (m0 : M) (z : List Value) (w h : Nat) (c g : B) : (mg m0 z w h c g)[m0.length + 1]? = some (cellR [vi w, vi h, vb c, vb g]) := by simp [mg]
theorem mg_z (m0 : M) (z : List Value) (w h : Nat) (c g : B) : (mg m0 z w h c g)[m0.length]? = some (cellR z) := by simp [mg]
theorem mg_lo (m0 : M) (z : List Value) (w h : Nat) (c g : B) {p : Nat} (hp : p < m0.length) : (mg m0 z w h c g)[p]? = m0[p]? := by simp [mg, List.getElem?_append_left hp]
theorem mg_set (m0 : M) (z : List Value) (w h : Nat) (c g : B) (w' h' : Nat) (c' g' : B) : (mg m0 z w h c g).set (m0.length + 1) (cellR [vi w', vi h', vb c', vb g']) = mg m0 z w' h' c' g' := by
  simp [mg, List.set_append]
theorem mg_setz (m0 : M) (z z' : List Value) (w h : Nat) (c g : B) : (mg m0 z w h c g).set m0.length (cellR z') = mg m0 z' w h c g := by
  simp [mg, List.set_append]
theorem loop41b (call : CallF) (hc : ∀ base x y m, call base 69 [vi x, vi y] m = some (.ret (vb (cellB x y)), m)) (fuel : Nat) (m0 : M) (kr : Value → Value → M → Res2) (kx : Value → Value → Value → Value → Value → M → Res2) (y : Nat) (bs : ByteArray) (w h : Nat) (hw : w ≤ 8) (hbs : bs.size = w) (z : List Value) (hz : z.length = 4) (x38 x39 x40 : Value) :
    ∀ (k n x : Nat) (c g : B), x + k = w → k < n →
      ∃ c2 g2, r41_L2 call fuel m0.length kr kx n (pt m0.length 0) (pt (m0.length + 1) 0) (vi y) (.string bs) x38 x39 x40 (vi w) (vi x) (mg m0 z w h c g) = match rowL bs y k x c g with
        | none => kr (pt m0.length 0) (.bool false) (mg m0 reg0 w h c2 g2)
        | some (c', g') => kx (pt m0.length 0) (pt (m0.length + 1) 0) x38 x39 x40 (mg m0 z w h c' g')
  | 0, n, x, c, g, hx, hn => by
    obtain ⟨n', rfl⟩ : ∃ n', n = n' + 1 := ⟨n - 1, by omega⟩
    rw [r41_L2_s]
    simp only [lss_nat, k1n]
    rw [decide_eq_false (by omega)]
    exact ⟨c, g, rfl⟩
  | k + 1, n, x, c, g, hx, hn => by
    obtain ⟨n', rfl⟩ : ∃ n', n = n' + 1 := ⟨n - 1, by omega⟩
    rw [r41_L2_s]
    simp only [lss_nat, k1n]
    rw [decide_eq_true (by omega : x < w)]
    simp only [kb]
    have hb : ∃ b, bs[x]? = some b := ⟨bs[x]'(by omega), by rw [getElem?_pos]⟩
    obtain ⟨b, hb⟩ := hb
    rw [idx9, hb]
    unfold rowL
    rw [hb]
    simp only [Option.map_some, eql5, (fa60 (m0.length + 1)).2.1, (fa60 (m0.length + 1)).2.2, ld58, hc, kB_same, kc]
    by_cases h1 : b.toNat = 35
    · rw [decide_eq_true (by omega : (b.toNat : Int) = 35), if_pos h1]
      simp only
      have e1 : mcell (mg m0 z w h c g) (m0.length + 1) 2 = some (vb c) := by unfold mcell; rw [mg_at]; rfl
      rw [e1]
      simp only [b_or]
      rw [st58f m0.length _ (m0.length + 1) (by omega) 2 (by omega) _ rfl _ (mg_at ..)]
      simp only [ks]
      rw [add1 x (by omega)]
      simp only
      have e2 : ([vi w, vi h, vb c, vb g] : List Value).set 2 (vb (c ||| cellB x y)) = [vi w, vi h, vb (c ||| cellB x y), vb g] := rfl
      rw [e2, mg_set]
      exact loop41b call hc fuel m0 kr kx y bs w h hw hbs z hz x38 x39 x40 k n' (x + 1) _ g (by omega) (by omega)
    · rw [decide_eq_false (by omega : ¬ (b.toNat : Int) = 35), if_neg h1]
      simp only
      by_cases h2 : b.toNat = 46
      · rw [decide_eq_true (by omega : (b.toNat : Int) = 46), if_pos h2]
        simp only
        have e1 : mcell (mg m0 z w h c g) (m0.length + 1) 3 = some (vb g) := by unfold mcell; rw [mg_at]; rfl
        rw [e1]
        simp only [b_or]
        rw [st58f m0.length _ (m0.length + 1) (by omega) 3 (by omega) _ rfl _ (mg_at ..)]
        simp only [ks]
        rw [add1 x (by omega)]
        simp only
        have e2 : ([vi w, vi h, vb c, vb g] : List Value).set 3 (vb (g ||| cellB x y)) = [vi w, vi h, vb c, vb (g ||| cellB x y)] := rfl
        rw [e2, mg_set]
        exact loop41b call hc fuel m0 kr kx y bs w h hw hbs z hz x38 x39 x40 k n' (x + 1) c _ (by omega) (by omega)
      · rw [decide_eq_false (by omega : ¬ (b.toNat : Int) = 46), if_neg h2]
        simp only [b60e]
        rw [st60 m0.length _ m0.length (Nat.le_refl _) z reg0 hz rfl rfl (mg_z ..)]
        simp only [ks]
        rw [mg_setz]
        exact ⟨c, g, rfl⟩
end Go.AM
namespace Go.AM
open Go Go.Proofs
/-- A slice of strings in memory. -/
def Strs (m : M) (v : Value) (l : List ByteArray) : Prop := (l = [] ∧ v = nilS) ∨ ∃ p row, v = sl p l.length ∧ m[p]? = some row ∧ row.cells = l.map Value.string
theorem strs_cell {m : M} {p : Nat} {row : Row} {l : List ByteArray} (h : m[p]? = some row) (hc : row.cells = l.map Value.string) {j : Nat} (hj : j < l.length) : mcell m p j = some (.string l[j]) := by
  unfold mcell
  rw [h]
  show row.cells[j]? = _
  rw [hc, List.getElem?_map, List.getElem?_eq_getElem hj]
  rfl
theorem loop41 (call : CallF) (hc : ∀ base x y m, call base 69 [vi x, vi y] m = some (.ret (vb (cellB x y)), m)) (fuel : Nat) (hf : 9 ≤ fuel) (m0 : M) (kr : Value → Value → M → Res2) (kx0 : Value → Value → M → Res2) {p N : Nat} {row : Row} {l : List ByteArray} (hp : m0[p]? = some row) (hrow : row.cells = l.map Value.string) (hl : l.length = N) (hN : N ≤ 8) (w h : Nat) (hw : w ≤ 8) (z : List Value) (hz : z.length = 4) :
    ∀ (n j : Nat) (c g : B), j ≤ N → N < n + j →
      ∃ c2 g2, r41_L0 call fuel m0.length kr kx0 n (pt m0.length 0) (pt (m0.length + 1) 0) (sl p N) (vi N) (vi j) (mg m0 z w h c g) = match rowsL w (l.drop j) j c g with
        | none => kr (pt m0.length 0) (.bool false) (mg m0 reg0 w h c2 g2)
        | some (c', g') => kx0 (pt m0.length 0) (pt (m0.length + 1) 0) (mg m0 z w h c' g')
  | 0, j, c, g, hj, hn => by omega
  | n + 1, j, c, g, hj, hn => by
    rw [r41_L0_s]
    simp only [lss_nat, k1n]
    by_cases hlt : j < N
    · rw [decide_eq_true hlt]
      simp only [kb]
      rw [ix22 p N N j hlt]
      simp only
      have hpl : p < m0.length := (List.getElem?_eq_some_iff.1 hp).1
      have hdrop : l.drop j = l[j]'(by omega) :: l.drop (j + 1) := List.drop_eq_getElem_cons (by omega)
      rw [ld22c, strs_cell (l := l) (by rw [mg_lo m0 z w h c g hpl]; exact hp) hrow (by omega), hdrop]
      generalize l[j]'(by omega) = bs
      simp only
      rw [len9]
      simp only [k2]
      rw [(fa60 (m0.length + 1)).1]
      simp only [ld3c]
      have e0 : mcell (mg m0 z w h c g) (m0.length + 1) 0 = some (vi w) := by unfold mcell; rw [mg_at]; rfl
      rw [e0]
      simp only [neq3]
      unfold rowsL
      by_cases hs : bs.size = w
      · rw [if_pos hs, decide_eq_false (fun h => h hs)]
        simp only
        rw [show (.int .i64 0 : Value) = vi ((0 : Nat) : Int) from rfl]
        obtain ⟨c2, g2, e⟩ := loop41b call hc fuel m0 (fun y2_56 y3_57 m => (kr y2_56 y3_57 m)) (fun y2_58 y4_59 y38_60 y39_61 y40_62 m => k1n (mbin E .add 3 y40_62 (.int .i64 1)) fun r => r41_L0 call fuel m0.length kr kx0 n y2_58 y4_59 y38_60 y39_61 r m) j bs w h hw hs z hz (sl p N) (vi N) (vi j) w fuel 0 c g (by omega) (by omega)
        simp only [k1n] at e
        cases hr : rowL bs j w 0 c g with
        | none =>
          rw [hr] at e
          exact ⟨c2, g2, e⟩
        | some cg =>
          obtain ⟨c', g'⟩ := cg
          rw [hr] at e
          simp only at e
          rw [e]
          simp only
          rw [add1 j (by omega)]
          exact loop41 call hc fuel hf m0 kr kx0 hp hrow hl hN w h hw z hz n (j + 1) c' g' (by omega) (by omega)
      · rw [if_neg hs, decide_eq_true hs]
        simp only [b60e]
        rw [st60 m0.length _ m0.length (Nat.le_refl _) z reg0 hz rfl rfl (mg_z ..)]
        simp only [ks]
        rw [mg_setz]
        exact ⟨c, g, rfl⟩
    · rw [decide_eq_false hlt, List.drop_eq_nil_of_le (by omega)]
      exact ⟨c, g, rfl⟩
/-- What read makes of a list of strings. -/
def readB (l : List ByteArray) : Option (Nat × Nat × B × B) := match l with
  | [] => none
  | b :: l' => if 8 < (b :: l').length then none else if b.size < 1 then none else if 8 < b.size then none else
    match rowsL b.size (b :: l') 0 0 0 with
    | none => none
    | some (c, g) => some (b.size, (b :: l').length, c, g)
def regV : Option (Nat × Nat × B × B) → Value
  | none => .tuple #[.agg reg0.toArray, .bool false]
  | some (w, h, c, g) => .tuple #[.agg #[vi w, vi h, vb c, vb g], .bool true]
theorem readB_cons (b : ByteArray) (l' : List ByteArray) : readB (b :: l') = if 8 < (b :: l').length then none else if b.size < 1 then none else if 8 < b.size then none else
    match rowsL b.size (b :: l') 0 0 0 with
    | none => none
    | some (c, g) => some (b.size, (b :: l').length, c, g) := rfl
theorem ld60 {m : M} {r : Nat} {a b c d : Value} (h : m[r]? = some (cellR [a, b, c, d])) : xload E.P m 60 (pt r 0) = some (.agg #[a, b, c, d]) := by
  have e : xload E.P m 60 (pt r 0) = (xread m r 0 4).map fun cs => .agg cs.toArray := by kernel_rfl
  rw [e, xread_eq]
  unfold mread
  rw [h]
  rfl
theorem ml60 {m : M} {r : Nat} {a b c d : Value} (h : m[r]? = some (cellR [a, b, c, d])) : mload E.P m 60 (pt r 0) = some (.agg #[a, b, c, d]) := by
  have e : mload E.P m 60 (pt r 0) = (mread m r 0 4).map fun cs => .agg cs.toArray := by kernel_rfl
  rw [e]
  unfold mread
  rw [h]
  rfl
theorem len22 (base : Nat) (m : M) (o l c : Nat) : vcalln E.P base m .len [22] [.slice (some ⟨o, 0, none⟩) l c] = some (vi l, m) := by kernel_rfl
theorem len22n (base : Nat) (m : M) : vcalln E.P base m .len [22] [nilS] = some (vi 0, m) := by kernel_rfl
theorem t41 (n base : Nat) (v : Value) (l : List ByteArray) (m0 : M) (hl0 : l.length ≤ 9223372036854775807) (hsz : ∀ b ∈ l, b.size ≤ 9223372036854775807) (hv : Strs m0 v l) : rt (n + 12) base 41 [v] m0 = some (.ret (regV (readB l)), m0) := by
  have hflat : ∀ o, vflat (regV o) = true := fun o => by
    cases o with
    | none => rfl
    | some x => rfl
  suffices h : ∃ m1, r41 (rt (n + 11)) (n + 11) m0.length v m0 = some (.ret (regV (readB l)), m1) by
    obtain ⟨m1, h⟩ := h
    exact rt_pure (f := 41) (rf := rf41) (by kernel_rfl) (by kernel_rfl) (by kernel_rfl) (n + 11) base _ m0 m1 _ h (hflat _)
  unfold r41
  rw [vcall_fun, k1_fun, show (.int .i64 1 : Value) = vi ((1 : Nat) : Int) from rfl, show (.int .i64 8 : Value) = vi ((8 : Nat) : Int) from rfl, show (.int .i64 0 : Value) = vi ((0 : Nat) : Int) from rfl]
  rw [al60]
  simp only [k2]
  have hz : (m0 ++ [cellR reg0])[m0.length]? = some (cellR reg0) := by simp
  have bad : (ks (xstore E.P m0.length (m0 ++ [cellR reg0]) 60 (pt m0.length 0) (.agg reg0.toArray)) fun m => (k0 (mload E.P m 60 (pt m0.length 0)) fun r_5 => (some (.ret (.tuple #[r_5, (.bool false)]), m)))) = some (.ret (regV none), m0 ++ [cellR reg0]) := by
    rw [st60 m0.length _ m0.length (Nat.le_refl _) reg0 reg0 rfl rfl rfl hz]
    simp only [ks]
    rw [show (m0 ++ [cellR reg0]).set m0.length (cellR reg0) = m0 ++ [cellR reg0] by simp [List.set_append]]
    rw [ml60 (a := vi 0) (b := vi 0) (c := vb 0) (d := vb 0) hz]
    rfl
  have bad' := bad
  simp only [ks, k0] at bad'
  have gtr_nat : ∀ i j : Nat, mbin E .gtr 3 (vi i) (vi j) = some (.bool (decide (j < i))) := fun i j => by
    rw [i_gtr, show decide ((j : Int) < (i : Int)) = decide (j < i) from decide_eq_decide.2 (by omega)]
  rcases hv with ⟨rfl, rfl⟩ | ⟨p, row, rfl, hr, hc⟩
  · rw [show readB [] = none from rfl, len22n]
    simp only
    rw [show (vi 0 : Value) = vi ((0 : Nat) : Int) from rfl, lss_nat]
    rw [decide_eq_true (by omega : 0 < 1)]
    simp only [k1n, kb, b60e]
    exact ⟨_, bad⟩
  · rw [len22]
    simp only [k1n, lss_nat]
    cases l with
    | nil =>
      rw [show readB [] = none from rfl]
      rw [decide_eq_true (by simp : ([] : List ByteArray).length < 1)]
      simp only [kb, b60e]
      exact ⟨_, bad⟩
    | cons b l' =>
      have hpl : p < m0.length := (List.getElem?_eq_some_iff.1 hr).1
      have hr1 : (m0 ++ [cellR reg0])[p]? = some row := by rw [List.getElem?_append_left hpl]; exact hr
      rw [decide_eq_false (by simp : ¬ (b :: l').length < 1)]
      simp only [kb]
      rw [len22]
      simp only [gtr_nat]
      rw [readB_cons]
      by_cases h1 : 8 < (b :: l').length
      · rw [decide_eq_true h1, if_pos h1]
        simp only [b60e]
        exact ⟨_, bad⟩
      · rw [decide_eq_false h1, if_neg h1]
        simp only
        rw [ix22 p _ _ 0 (by simp)]
        simp only
        rw [ld22c, strs_cell hr1 hc (j := 0) (by simp)]
        simp only [List.getElem_cons_zero, len9, lss_nat]
        by_cases h2 : b.size < 1
        · rw [decide_eq_true h2, if_pos h2]
          simp only [b60e]
          exact ⟨_, bad⟩
        · rw [decide_eq_false h2, if_neg h2]
          simp only
          rw [ld22c, strs_cell hr1 hc (j := 0) (by simp)]
          simp only [List.getElem_cons_zero, len9, gtr_nat]
          by_cases h3 : 8 < b.size
          · rw [decide_eq_true h3, if_pos h3]
            simp only [b60e]
            exact ⟨_, bad⟩
          · rw [decide_eq_false h3, if_neg h3]
            simp only
            rw [ld22c, strs_cell hr1 hc (j := 0) (by simp)]
            simp only [List.getElem_cons_zero, len9]
            rw [len22]
            simp only [b60, al60]
            have hlen : (m0 ++ [cellR reg0]).length = m0.length + 1 := by simp
            rw [hlen, st60 m0.length _ (m0.length + 1) (by omega) reg0 [vi b.size, vi (b :: l').length, vb 0, vb 0] rfl rfl rfl (by simp)]
            simp only [ks]
            rw [len22]
            simp only
            have hm : ((m0 ++ [cellR reg0]) ++ [cellR reg0]).set (m0.length + 1) (cellR [vi b.size, vi (b :: l').length, vb 0, vb 0]) = mg m0 reg0 b.size (b :: l').length 0 0 := by
              simp [mg, List.set_append]
            rw [hm]
            obtain ⟨c2, g2, e⟩ := loop41 (rt (n + 11)) (fun base x y m => t69 (n + 10) base x y m) (n + 11) (by omega) m0 (fun y2_64 y3_65 m => (k0 (mload E.P m 60 y2_64) fun r_66 => (some (.ret (.tuple #[r_66, y3_65]), m)))) (fun y2_67 y4_68 m => (k1n (xload E.P m 60 y4_68) fun v80_69 => (ks (xstore E.P m0.length m 60 y2_67 v80_69) fun m => (k0 (mload E.P m 60 y2_67) fun r_70 => (some (.ret (.tuple #[r_70, (.bool true)]), m)))))) hr hc rfl (by omega) b.size (b :: l').length (by omega) reg0 rfl (n + 11) 0 0 0 (by omega) (by omega)
            simp only [k1n, ks] at e
            rw [e, List.drop_zero]
            cases hcg : rowsL b.size (b :: l') 0 0 0 with
            | none =>
              simp only [k0]
              rw [ml60 (a := vi 0) (b := vi 0) (c := vb 0) (d := vb 0) (mg_z m0 reg0 b.size (b :: l').length c2 g2)]
              exact ⟨_, rfl⟩
            | some cg =>
              obtain ⟨c', g'⟩ := cg
              simp only
              rw [ld60 (mg_at ..)]
              simp only
              rw [st60 m0.length _ m0.length (Nat.le_refl _) reg0 [vi b.size, vi (b :: l').length, vb c', vb g'] rfl rfl rfl (mg_z ..)]
              simp only
              rw [mg_setz]
              simp only [k0]
              rw [ml60 (mg_z ..)]
              exact ⟨_, rfl⟩
end Go.AM
namespace Go.AM
open Go Go.Proofs
theorem r12_L0_s (call : CallF) (fuel base : Nat) (kr : Value → M → Res2) (kx0 : M → Res2) (n : Nat) (x0 x3 : Value) (m : M) : r12_L0 call fuel base kr kx0 (n + 1) x0 x3 m =
    (k2 (vcalln E.P base m .len [22] [x0]) fun v6_1 m => (k1n (mbin E .lss 3 x3 v6_1) fun v7_2 => (kb v7_2 (k1n (mbin E .geq 3 x3 (.int .i64 20)) fun v11_3 => (kb v11_3 (kr (.bool false) m) (k1n (mindexAddr E.P 22 x0 x3) fun v15_4 => (k1n (xload E.P m 9 v15_4) fun v16_5 => (k2 (vcalln E.P base m .len [9] [v16_5]) fun v17_6 m => (k1n (mbin E .gtr 3 v17_6 (.int .i64 20)) fun v18_7 => (kb v18_7 (kr (.bool false) m) (k1n (mbin E .add 3 x3 (.int .i64 1)) fun v9_8 => (r12_L0 call fuel base kr kx0 n x0 v9_8 m))))))))) (kx0 m)))) := by
  unfold r12_L0
  rw [k1_fun, vcall_fun]
theorem gtr_nat (i j : Nat) : mbin E .gtr 3 (vi i) (vi j) = some (.bool (decide (j < i))) := by
  rw [i_gtr, show decide ((j : Int) < (i : Int)) = decide (j < i) from decide_eq_decide.2 (by omega)]
theorem geq_nat (i j : Nat) : mbin E .geq 3 (vi i) (vi j) = some (.bool (decide (j ≤ i))) := by
  rw [i_geq, show decide ((j : Int) ≤ (i : Int)) = decide (j ≤ i) from decide_eq_decide.2 (by omega)]
theorem loop12 (call : CallF) (fuel base : Nat) (kr : Value → M → Res2) (kx0 : M → Res2) {m : M} {v : Value} {l : List ByteArray} (hv : Strs m v l) :
    ∀ (n j : Nat), j ≤ 20 → 20 < n + j → r12_L0 call fuel base kr kx0 n v (vi j) m = kr (.bool false) m ∨ r12_L0 call fuel base kr kx0 n v (vi j) m = kx0 m
  | 0, j, hj, hn => by omega
  | n + 1, j, hj, hn => by
    rw [r12_L0_s]
    rcases hv with ⟨rfl, rfl⟩ | ⟨p, row, rfl, hr, hc⟩
    · rw [len22n]
      simp only [k2]
      rw [show (vi 0 : Value) = vi ((0 : Nat) : Int) from rfl, lss_nat, decide_eq_false (by omega)]
      simp only [k1n, kb]
      exact .inr trivial
    · rw [len22]
      simp only [k2, lss_nat, k1n]
      by_cases hlt : j < l.length
      · rw [decide_eq_true hlt]
        simp only [kb]
        rw [show (.int .i64 20 : Value) = vi ((20 : Nat) : Int) from rfl, geq_nat]
        by_cases h20 : 20 ≤ j
        · rw [decide_eq_true h20]
          exact .inl rfl
        · rw [decide_eq_false h20]
          simp only
          rw [ix22 p _ _ j hlt]
          simp only
          rw [ld22c, strs_cell hr hc hlt]
          simp only [len9, gtr_nat]
          by_cases h3 : 20 < (l[j]).size
          · rw [decide_eq_true h3]
            exact .inl rfl
          · rw [decide_eq_false h3, add1 j (by omega)]
            exact loop12 call fuel base kr kx0 (.inr ⟨p, row, rfl, hr, hc⟩) n (j + 1) (by omega) (by omega)
      · rw [decide_eq_false hlt]
        exact .inr rfl
theorem t12 (n base : Nat) {m : M} {v : Value} {l : List ByteArray} (hv : Strs m v l) : ∃ b, rt (n + 22) base 12 [v] m = some (.ret (.bool b), m) := by
  suffices h : ∃ b, r12 (rt (n + 21)) (n + 21) m.length v m = some (.ret (.bool b), m) by
    obtain ⟨b, h⟩ := h
    exact ⟨b, rt_pure (f := 12) (rf := rf12) (by kernel_rfl) (by kernel_rfl) (by kernel_rfl) (n + 21) base _ m m _ h rfl⟩
  unfold r12
  rw [fVal_fun, show (.int .i64 0 : Value) = vi ((0 : Nat) : Int) from rfl]
  rcases loop12 (rt (n + 21)) (n + 21) m.length (fun y2_9 m => some (.ret y2_9, m)) (fun m => some (.ret (.bool true), m)) hv (n + 21) 0 (by omega) (by omega) with h | h
  · exact ⟨false, h⟩
  · exact ⟨true, h⟩
theorem ex0 (a b : Value) : mextract 0 (.tuple #[a, b]) = some a := rfl
theorem ex1 (a b : Value) : mextract 1 (.tuple #[a, b]) = some b := rfl
theorem Strs.keeps {m m' : M} {v : Value} {l : List ByteArray} (h : Strs m v l) (hk : Keeps m.length m m') : Strs m' v l := by
  rcases h with h | ⟨p, row, h1, h2, h3⟩
  · exact .inl h
  · exact .inr ⟨p, row, h1, (hk.2 p (List.getElem?_eq_some_iff.1 h2).1).trans h2, h3⟩
/-- After the region is stored: the cells are read from it. -/
theorem regst (base : Nat) (m : M) (hb : base ≤ m.length) (w h : Nat) (c g : B) : xstore E.P base (m ++ [cellR reg0]) 60 (pt m.length 0) (.agg #[vi w, vi h, vb c, vb g]) = some (m ++ [cellR [vi w, vi h, vb c, vb g]]) := by
  rw [st60 base _ m.length hb reg0 [vi w, vi h, vb c, vb g] rfl rfl rfl (by simp)]
  simp [List.set_append]
theorem regst0 (base : Nat) (m : M) (hb : base ≤ m.length) : xstore E.P base (m ++ [cellR reg0]) 60 (pt m.length 0) (.agg reg0.toArray) = some (m ++ [cellR reg0]) := by
  rw [st60 base _ m.length hb reg0 reg0 rfl rfl rfl (by simp)]
  simp [List.set_append]
theorem regc (m : M) (w h : Nat) (c g : B) : mcell (m ++ [cellR [vi w, vi h, vb c, vb g]]) m.length 2 = some (vb c) := by
  unfold mcell
  simp [cellR]
end Go.AM
namespace Go.AM
open Go Go.Proofs
theorem e26 (a b : Int) : mbin E .eql 26 (vi a) (vi b) = some (.bool (decide (a = b))) := by
  have e : mbin E .eql 26 (vi a) (vi b) = some (.bool (a == b)) := by kernel_rfl
  rw [e]
  rfl
theorem n26 (a b : Int) : mbin E .neq 26 (vi a) (vi b) = some (.bool (decide (a ≠ b))) := by
  have e : mbin E .neq 26 (vi a) (vi b) = some (.bool (a != b)) := by kernel_rfl
  rw [e]
  congr 2
  rw [Bool.eq_iff_iff]
  simp
theorem e4 (a b : Bool) : mbin E .eql 4 (.bool a) (.bool b) = some (.bool (a == b)) := by
  cases a <;> cases b <;> kernel_rfl
end Go.AM
