import Derived.KernelRfl
import Derived.Laws.BytesArg
import Derived.Laws.StructEq
import Derived.RangeFuncLeaves
import Derived.RangeFuncRecord
import Derived.Test.YtljhnbimlomdlaaGreatProg
import Derived.Test.YtljhnbimlomdlaaGreatRows
import Derived.WalkKit
import Derived.Test.YtljhnbimlomdlaaGreatAmB
import Derived.Test.YtljhnbimlomdlaaGreatAmG
import Derived.Test.YtljhnbimlomdlaaGreatAmModel
import Derived.Test.YtljhnbimlomdlaaGreatAmRel
import Derived.Test.YtljhnbimlomdlaaGreatAmOps6
import Derived.Test.YtljhnbimlomdlaaGreatAmCode
import Derived.Test.YtljhnbimlomdlaaGreatAmDraw5
import Derived.Test.YtljhnbimlomdlaaGreatAmEq
import Derived.Test.YtljhnbimlomdlaaGreatRBase
import Derived.Test.YtljhnbimlomdlaaGreatR31
import Derived.Test.YtljhnbimlomdlaaGreatR63
import Derived.Test.YtljhnbimlomdlaaGreatR93
import Derived.Test.YtljhnbimlomdlaaGreatAmS
set_option linter.unusedVariables false
set_option linter.unusedSimpArgs false
set_option linter.unusedSectionVars false
namespace Go.AM
open Go Go.Proofs
def ratN (n d : Int) : Int × Int := match Nat.gcd n.natAbs d.natAbs with
  | g => if d < 0 then (-n / (g : Int), -d / (g : Int)) else (n / (g : Int), d / (g : Int))
def den1 (b : Int) : Int := if b ≤ 1 then 1 else b
def lcmN (a b : Int) : Int := a / (Nat.gcd a.natAbs b.natAbs : Nat) * b
def plusN (a b c d : Int) : Int × Int := match den1 b, den1 d with
  | b', d' => match lcmN b' d' with
    | m => ratN (a * (m / b') + c * (m / d')) m
def timesN (a b c d : Int) : Int × Int := ratN (a * c) (den1 b * den1 d)
def smallR (a b : Int) : Bool := decide (-1048576 ≤ a) && decide (a ≤ 1048576) && decide (0 ≤ b) && decide (b ≤ 1048576)
def ratV (p : Int × Int) : Value := match p with
  | (a, b) => .agg #[.int .i64 a, .int .i64 b]
def sc91 : SC := fun args _ => match args with
  | [.agg ⟨[.int .i64 a, .int .i64 b]⟩, .agg ⟨[.int .i64 c, .int .i64 d]⟩] => if smallR a b && smallR c d then some (ratV (plusN a b c d)) else none
  | _ => none
def sc56 : SC := fun args _ => match args with
  | [.agg ⟨[.int .i64 a, .int .i64 b]⟩, .agg ⟨[.int .i64 c, .int .i64 d]⟩] => if smallR a b && smallR c d then some (ratV (timesN a b c d)) else none
  | _ => none
def cmpN (x y x' y' : Int) : Int := if y < y' then -1 else if y > y' then 1 else if x < x' then -1 else if x > x' then 1 else 0
def sc41 : SC := fun args _ => match args with
  | [.agg ⟨[.int .i64 x, .int .i64 y]⟩, .agg ⟨[.int .i64 x', .int .i64 y']⟩] => some (.int .i64 (cmpN x y x' y'))
  | _ => none
def small40 (a : Int) : Bool := decide (-1099511627776 ≤ a) && decide (a ≤ 1099511627776)
def sc71 : SC := fun args _ => match args with
  | [.agg ⟨[.int .i64 a, .int .i64 b]⟩, .int .i64 x, .int .i64 y] => if small40 a && small40 b && small40 x && small40 y then some (ratV (a + x, b + y)) else none
  | _ => none
def sc86 : SC := fun args _ => match args with
  | [.int .i64 a, .int .i64 b] => if small40 a && small40 b && decide (0 < b) then some (.int .i64 (a % b)) else none
  | _ => none
def sc143 : SC := fun args _ => match args with
  | [.int .i64 a, .int .i64 b] => if small40 a && small40 b then some (.int .i64 (a + b)) else none
  | _ => none
def small20 (a : Int) : Bool := decide (-1048576 ≤ a) && decide (a ≤ 1048576)
def sc144 : SC := fun args _ => match args with
  | [.int .i64 a, .int .i64 b] => if small20 a && small20 b then some (.int .i64 (a * b)) else none
  | _ => none
noncomputable def scs1 : List (Nat × SC) := [(91, sc91), (56, sc56), (41, sc41), (71, sc71), (86, sc86), (143, sc143), (144, sc144)]
end Go.AM
namespace Go.AM
open Go Go.Proofs
noncomputable def r0 (n : Nat) : CallF := scallN [] E.pure tab n
theorem r0_sound (n : Nat) : SoundCall E (r0 n) := scallN_sound E_good E_mix _ tab_ok (by simp) n
theorem r0_pure {f : FuncId} {rf : RF} (hf : rfind f tab = some rf) (hp : E.pure f = true) (n base : Nat) (args : List Value) (m m1 : M) (v : Value) (h : rf (r0 n) n m.length args m = some (.ret v, m1)) (hv : vflat v = true) : r0 (n + 1) base f args m = some (.ret v, m) := by
  show scallN [] E.pure tab (n + 1) base f args m = _
  unfold scallN
  simp only [scall, sfind, hf, hp, xlen_eq, fNat_eq]
  have h' : rf (scallN [] E.pure tab n) n m.length args m = some (.ret v, m1) := h
  rw [h']
  simp only [hv]
theorem sc_of {f : FuncId} {args : List Value} {m : M} {v : Value} (n : Nat) (h : ∀ base, r0 n base f args m = some (.ret v, m)) (base : Nat) (hy : f ≠ yid := by decide) : SoundOne E base f args m (.ret v) m :=
  (r0_sound n).one (h base) hy
theorem i0' : (.int .i64 0 : Value) = vi 0 := rfl
theorem i1' : (.int .i64 1 : Value) = vi 1 := rfl
theorem get_new {m : M} {cs : List Value} : (m ++ [cellR cs])[m.length]? = some (cellR cs) := List.getElem?_concat_length
theorem get_old {m : M} {x : Row} {r : Nat} {row : Row} (h : m[r]? = some row) : (m ++ [x])[r]? = some row := by
  rw [List.getElem?_append_left (List.getElem?_eq_some_iff.1 h).1]; exact h
theorem cell_new {m : M} {cs : List Value} {j : Nat} {v : Value} (h : cs[j]? = some v) : mcell (m ++ [cellR cs]) m.length j = some v := box_cell get_new j v h
theorem neg3 (a : Int) : mun .neg (vi a) = some (vi (wr (-a))) := by
  rw [← Int.zero_sub]; rfl
theorem mx3 (base : Nat) (m : M) (a b : Int) : vcalln E.P base m .max [3, 3] [vi a, vi b] = some (vi (max a b), m) := by
  have e : vcalln E.P base m .max [3, 3] [vi a, vi b] = some (vi (if b > a then b else a), m) := by kernel_rfl
  rw [e]
  congr 3
  split
  · rw [Int.max_eq_right (by omega)]
  · rw [Int.max_eq_left (by omega)]
theorem r80_L0_s (call : CallF) (fuel base : Nat) (kx0 : Value → M → Res2) (n : Nat) (x0 x1 : Value) (m : M) : r80_L0 call fuel base kx0 (n + 1) x0 x1 m =
    (k1n (mbin E .neq 3 x1 (.int .i64 0)) fun v6_1 => (kb v6_1 (k1n (mbin E .rem 3 x0 x1) fun v10_2 => (r80_L0 call fuel base kx0 n x1 v10_2 m)) (kx0 x0 m))) := by
  unfold r80_L0
  rw [k1_fun]
theorem loop80 (call : CallF) (fuel base : Nat) (kx : Value → M → Res2) (m : M) :
    ∀ (k n a b : Nat), b < 2 ^ k → 2 * k + 1 ≤ n → r80_L0 call fuel base kx n (vi a) (vi b) m = kx (vi (Nat.gcd a b)) m
  | k, 0, a, b, hb, hn => by omega
  | k, n + 1, a, b, hb, hn => by
    rw [r80_L0_s, i0', neq3, k1s]
    by_cases h0 : b = 0
    · subst h0
      rw [decide_eq_true (by rfl), Bool.not_true, kbf, Nat.gcd_zero_right]
    · rw [decide_eq_false (by omega), Bool.not_false, kbt, rem3 _ _ (by omega), k1s]
      have e1 : ((a : Int).tmod b) = ((a % b : Nat) : Int) := (Int.ofNat_tmod _ _).symm
      rw [e1]
      have g1 : Nat.gcd a b = Nat.gcd b (a % b) := by rw [Nat.gcd_comm, Nat.gcd_rec, Nat.gcd_comm]
      have hr : a % b < b := Nat.mod_lt _ (by omega)
      cases k with
      | zero => simp at hb; omega
      | succ k =>
        obtain ⟨n, rfl⟩ : ∃ n', n = n' + 1 := ⟨n - 1, by omega⟩
        rw [r80_L0_s, i0', neq3, k1s]
        by_cases h1 : a % b = 0
        · rw [h1, decide_eq_true (by rfl), Bool.not_true, kbf, g1, h1, Nat.gcd_zero_right]
        · rw [decide_eq_false (by omega), Bool.not_false, kbt, rem3 _ _ (by omega), k1s]
          have e2 : ((b : Int).tmod ((a % b : Nat) : Int)) = ((b % (a % b) : Nat) : Int) := (Int.ofNat_tmod _ _).symm
          rw [e2]
          have hr2 : b % (a % b) < a % b := Nat.mod_lt _ (by omega)
          have hr3 : b % (a % b) ≤ b - a % b := by
            rw [Nat.mod_eq_sub_mod (by omega)]
            exact Nat.mod_le _ _
          have hp : 2 ^ (k + 1) = 2 * 2 ^ k := by rw [Nat.pow_succ, Nat.mul_comm]
          rw [loop80 call fuel base kx m k n (a % b) (b % (a % b)) (by omega) (by omega), g1, Nat.gcd_comm b, Nat.gcd_rec (a % b) b, Nat.gcd_comm]
theorem t80_0 (n base : Nat) (hn : 127 ≤ n) (a b : Nat) (hb : b ≤ 4611686018427387904) (m : M) : r0 (n + 1) base 80 [vi a, vi b] m = some (.ret (vi (Nat.gcd a b)), m) := by
  refine r0_pure (f := 80) (rf := rf80) (by kernel_rfl) (by kernel_rfl) n base _ m m _ ?_ rfl
  show r80 (r0 n) n m.length (vi a) (vi b) m = _
  unfold r80
  rw [fVal_fun, loop80 _ _ _ _ m 63 n a b (by omega) (by omega)]
theorem gcd_pos' {n d : Int} (h : d ≠ 0) : 0 < (Nat.gcd n.natAbs d.natAbs : Nat) := Nat.gcd_pos_of_pos_right _ (by omega)
theorem quo_dvd {a g : Int} (hg : g ≠ 0) (hd : g ∣ a) (h1 : -4611686018427387904 ≤ a) (h2 : a ≤ 4611686018427387904) : mbin E .quo 3 (vi a) (vi g) = some (vi (a / g)) := by
  rw [quo3 _ _ hg, Int.tdiv_eq_ediv_of_dvd hd]
  obtain ⟨q, rfl⟩ := hd
  rw [Int.mul_ediv_cancel_left _ hg]
  have hq : q.natAbs ≤ (g * q).natAbs := by
    rw [Int.natAbs_mul]
    exact Nat.le_mul_of_pos_left _ (by omega)
  rw [wr_id (by omega) (by omega)]
theorem bld96 (a b : Int) : mbuild E.P 96 [(0, vi a), (1, vi b)] = some (.agg #[vi a, vi b]) := by kernel_rfl
theorem ratN_eq (n d : Int) : ratN n d = if d < 0 then (-n / (Nat.gcd n.natAbs d.natAbs : Nat), -d / (Nat.gcd n.natAbs d.natAbs : Nat)) else (n / (Nat.gcd n.natAbs d.natAbs : Nat), d / (Nat.gcd n.natAbs d.natAbs : Nat)) := rfl
theorem t50_0 (n base : Nat) (hn : 128 ≤ n) (a d : Int) (ha1 : -4611686018427387904 ≤ a) (ha2 : a ≤ 4611686018427387904) (hd1 : -4611686018427387904 ≤ d) (hd2 : d ≤ 4611686018427387904) (h0 : d ≠ 0) (m : M) :
    r0 (n + 1) base 50 [vi a, vi d] m = some (.ret (ratV (ratN a d)), m) := by
  obtain ⟨k, rfl⟩ : ∃ k, n = k + 1 := ⟨n - 1, by omega⟩
  have main : ∀ (x : Nat) (a d : Int), -4611686018427387904 ≤ a → a ≤ 4611686018427387904 → 0 < d → d ≤ 4611686018427387904 → x = a.natAbs → ∀ (K : Value → M → Res2) (m : M) ,
      (kc (r0 (k + 1) m.length 80 [vi (x : Int), vi d] m) (fun v17_14 m' => (k1n (mbin E .quo 3 (vi a) v17_14) fun v20 => (k1n (mbin E .quo 3 (vi d) v17_14) fun v23 => (k1n (mbuild E.P 96 [(0, v20), (1, v23)]) fun v24 => K v24 m')))) (fun v m => some (.pan v, m))) = K (ratV (ratN a d)) m := by
    intro x a d ha1 ha2 hd1 hd2 hx K m
    obtain ⟨d', rfl⟩ := Int.eq_ofNat_of_zero_le (show 0 ≤ d by omega)
    have hg := gcd_pos' (n := a) (d := (d' : Int)) (by omega)
    rw [t80_0 k _ (by omega) x d' (by omega), kcs]
    have e : Nat.gcd x d' = Nat.gcd a.natAbs (d' : Int).natAbs := by rw [hx]; rfl
    rw [e, quo_dvd (by omega) (by rw [Int.ofNat_dvd_left]; exact Nat.gcd_dvd_left _ _) ha1 ha2, k1s, quo_dvd (by omega) (by rw [Int.ofNat_dvd_left]; exact Nat.gcd_dvd_right _ _) (by omega) hd2, k1s, bld96, k1s]
    rw [ratN_eq, if_neg (by omega)]
    rfl
  refine r0_pure (f := 50) (rf := rf50) (by kernel_rfl) (by kernel_rfl) (k + 1) base _ m (m ++ [cellR [vi (ratN a d).1, vi (ratN a d).2]]) _ ?_ rfl
  show r50 (r0 (k + 1)) (k + 1) m.length (vi a) (vi d) m = _
  unfold r50
  have fin : ∀ (p : Int × Int), (ks (xstore E.P m.length (m ++ [cellR [.int .i64 0, .int .i64 0]]) 96 (pt m.length 0) (ratV p)) fun m' => (k0 (mload E.P m' 96 (pt m.length 0)) fun r => some (.ret r, m'))) = some (.ret (ratV p), m ++ [cellR [vi p.1, vi p.2]]) := by
    intro p
    obtain ⟨p1, p2⟩ := p
    rw [show ratV (p1, p2) = .agg #[vi p1, vi p2] from rfl, st96 (Nat.le_refl _) get_new rfl, kss]
    have e : (m ++ [cellR [.int .i64 0, .int .i64 0]]).set m.length (cellR [vi p1, vi p2]) = m ++ [cellR [vi p1, vi p2]] := by simp
    rw [e, ml96 get_new, k0s]
  rw [vcall_fun, k1_fun, fVal_fun, al96, k2s, i0', lss3, k1s]
  have hlen : (m ++ [cellR [.int .i64 0, .int .i64 0]]).length = m.length + 1 := by simp
  by_cases hd : d < 0
  · rw [decide_eq_true hd, kbt, neg3, wr_id (by omega) (by omega), k1s, neg3, wr_id (by omega) (by omega), k1s, neg3, wr_id (by omega) (by omega), k1s, mx3, k2s]
    have hmax : max (-a) (- -a) = (((-a).natAbs : Nat) : Int) := by omega
    rw [hmax]
    have := main (-a).natAbs (-a) (-d) (by omega) (by omega) (by omega) (by omega) rfl (fun v m' => ks (xstore E.P m.length m' 96 (pt m.length 0) v) fun m' => (k0 (mload E.P m' 96 (pt m.length 0)) fun r => some (.ret r, m'))) (m ++ [cellR [.int .i64 0, .int .i64 0]])
    have sb : ∀ b b' args m, r0 (k + 1) b 80 args m = r0 (k + 1) b' 80 args m := fun b b' args m => by
      show scallN [] E.pure tab (k + 1) b 80 args m = scallN [] E.pure tab (k + 1) b' 80 args m
      unfold scallN
      rfl
    rw [sb m.length (m ++ [cellR [.int .i64 0, .int .i64 0]]).length]
    rw [show (vi 0 : Value) = .int .i64 0 from rfl]
    refine this.trans ?_
    have e2 : ratN (-a) (-d) = ratN a d := by
      rw [ratN_eq, ratN_eq, if_neg (by omega), if_pos hd, Int.natAbs_neg, Int.natAbs_neg]
    rw [e2]
    exact fin (ratN a d)
  · rw [decide_eq_false hd, kbf, neg3, wr_id (by omega) (by omega), k1s, mx3, k2s]
    have hmax : max a (-a) = ((a.natAbs : Nat) : Int) := by omega
    rw [hmax]
    have := main a.natAbs a d (by omega) (by omega) (by omega) (by omega) rfl (fun v m' => ks (xstore E.P m.length m' 96 (pt m.length 0) v) fun m' => (k0 (mload E.P m' 96 (pt m.length 0)) fun r => some (.ret r, m'))) (m ++ [cellR [.int .i64 0, .int .i64 0]])
    have sb : ∀ b b' args m, r0 (k + 1) b 80 args m = r0 (k + 1) b' 80 args m := fun b b' args m => by
      show scallN [] E.pure tab (k + 1) b 80 args m = scallN [] E.pure tab (k + 1) b' 80 args m
      unfold scallN
      rfl
    rw [sb m.length (m ++ [cellR [.int .i64 0, .int .i64 0]]).length]
    rw [show (vi 0 : Value) = .int .i64 0 from rfl]
    refine this.trans ?_
    exact fin (ratN a d)
end Go.AM
namespace Go.AM
open Go Go.Proofs
abbrev rV (a b : Int) : Value := .agg #[vi a, vi b]
theorem den1_pos (b : Int) : 1 ≤ den1 b := by unfold den1; split <;> omega
theorem den1_le {b : Int} {M : Int} (h : b ≤ M) (h1 : 1 ≤ M) : den1 b ≤ M := by unfold den1; split <;> omega
theorem max_den (b : Int) : max b 1 = den1 b := by unfold den1; split <;> omega
theorem t85_0 (n base : Nat) (a b : Int) (m : M) : r0 (n + 1) base 85 [rV a b] m = some (.ret (vi (den1 b)), m) := by
  refine r0_pure (f := 85) (rf := rf85) (by kernel_rfl) (by kernel_rfl) n base _ m (m ++ [cellR [vi a, vi b]]) _ ?_ rfl
  show r85 (r0 n) n m.length (rV a b) m = _
  unfold r85
  rw [vcall_fun, k1_fun, fVal_fun, bxa2, k2s, ff96_1, k1s, ld3, cell_new (v := vi b) rfl, k1s, i1', mx3, k2s, max_den]
theorem quo_nn {a b : Int} (h0 : 0 ≤ a) (h1 : 1 ≤ b) (h2 : a ≤ 4611686018427387904) : mbin E .quo 3 (vi a) (vi b) = some (vi (a / b)) := by
  rw [quo3 _ _ (by omega), Int.tdiv_eq_ediv_of_nonneg h0]
  have h3 : a / b ≤ a := Int.ediv_le_self _ h0
  have h4 : 0 ≤ a / b := Int.ediv_nonneg h0 (by omega)
  rw [wr_id (by omega) (by omega)]
theorem mul_bd {a b A B : Int} (ha1 : -A ≤ a) (ha2 : a ≤ A) (hb1 : -B ≤ b) (hb2 : b ≤ B) : -(A * B) ≤ a * b ∧ a * b ≤ A * B := by
  have h1 : a.natAbs ≤ A.toNat := by omega
  have h2 : b.natAbs ≤ B.toNat := by omega
  have h3 : (a * b).natAbs ≤ A.toNat * B.toNat := by rw [Int.natAbs_mul]; exact Nat.mul_le_mul h1 h2
  have h4 : ((A.toNat * B.toNat : Nat) : Int) = A * B := by
    rw [Int.natCast_mul, Int.toNat_of_nonneg (by omega), Int.toNat_of_nonneg (by omega)]
  omega
theorem t92_0 (n base : Nat) (hn : 128 ≤ n) {a b : Int} (ha : 1 ≤ a) (ha2 : a ≤ 1048576) (hb : 1 ≤ b) (hb2 : b ≤ 1048576) (m : M) : r0 (n + 1) base 92 [vi a, vi b] m = some (.ret (vi (lcmN a b)), m) ∧ 0 ≤ lcmN a b ∧ lcmN a b ≤ 1099511627776 ∧ 1 ≤ lcmN a b := by
  have hg : 0 < ((Nat.gcd a.natAbs b.natAbs : Nat) : Int) := by have := gcd_pos' (n := a) (d := b) (by omega); omega
  have hd : ((Nat.gcd a.natAbs b.natAbs : Nat) : Int) ∣ a := by rw [Int.ofNat_dvd_left]; exact Nat.gcd_dvd_left _ _
  have h3 : a / ((Nat.gcd a.natAbs b.natAbs : Nat) : Int) ≤ a := Int.ediv_le_self _ (by omega)
  have h4 : 1 ≤ a / ((Nat.gcd a.natAbs b.natAbs : Nat) : Int) := by
    generalize ((Nat.gcd a.natAbs b.natAbs : Nat) : Int) = g at hg hd ⊢
    have hg : 0 < g := by omega
    obtain ⟨q, rfl⟩ := hd
    rw [Int.mul_ediv_cancel_left _ (by omega)]
    apply Classical.byContradiction
    intro h
    have h7 := Int.mul_le_mul_of_nonneg_left (show q ≤ 0 by omega) (show 0 ≤ g by omega)
    rw [Int.mul_zero] at h7
    omega
  have h5 := mul_bd (a := a / ((Nat.gcd a.natAbs b.natAbs : Nat) : Int)) (b := b) (A := 1048576) (B := 1048576) (by omega) (by omega) (by omega) hb2
  have h6 : 1 * 1 ≤ a / ((Nat.gcd a.natAbs b.natAbs : Nat) : Int) * b := Int.mul_le_mul h4 hb (by omega) (by omega)
  unfold lcmN
  refine ⟨?_, by omega, by omega, by omega⟩
  obtain ⟨k, rfl⟩ : ∃ k, n = k + 1 := ⟨n - 1, by omega⟩
  refine r0_pure (f := 92) (rf := rf92) (by kernel_rfl) (by kernel_rfl) (k + 1) base _ m m _ ?_ rfl
  show r92 (r0 (k + 1)) (k + 1) m.length (vi a) (vi b) m = _
  unfold r92
  have e := t80_0 k m.length (by omega) a.natAbs b.natAbs (by omega) m
  rw [show ((a.natAbs : Nat) : Int) = a by omega, show ((b.natAbs : Nat) : Int) = b by omega] at e
  rw [k1_fun, fVal_fun, e, kcs, quo_dvd (by omega) hd (by omega) (by omega), k1s, mul3, wr_id (by omega) (by omega), k1s]
theorem t65_0 (n base : Nat) {a b q : Int} (hq0 : 0 ≤ q) (hq : q ≤ 1099511627776) (ha1 : -1048576 ≤ a) (ha2 : a ≤ 1048576) (m : M) : r0 (n + 2) base 65 [rV a b, vi q] m = some (.ret (vi (a * (q / den1 b))), m) ∧ -1152921504606846976 ≤ a * (q / den1 b) ∧ a * (q / den1 b) ≤ 1152921504606846976 := by
  have h1 := den1_pos b
  have h3 : q / den1 b ≤ q := Int.ediv_le_self _ hq0
  have h4 : 0 ≤ q / den1 b := Int.ediv_nonneg hq0 (by omega)
  have h5 := mul_bd (a := a) (b := q / den1 b) (A := 1048576) (B := 1099511627776) ha1 ha2 (by omega) (by omega)
  refine ⟨?_, by omega, by omega⟩
  refine r0_pure (f := 65) (rf := rf65) (by kernel_rfl) (by kernel_rfl) (n + 1) base _ m (m ++ [cellR [vi a, vi b]]) _ ?_ rfl
  show r65 (r0 (n + 1)) (n + 1) m.length (rV a b) (vi q) m = _
  unfold r65
  rw [k1_fun, fVal_fun, bxa2, k2s, ff96_0, k1s, ld3, cell_new (v := vi a) rfl, k1s, ldb96 get_new, k1s, t85_0 n, kB_same, kcs, quo_nn hq0 h1 (by omega), k1s, mul3, wr_id (by omega) (by omega), k1s]
theorem smallR_iff {a b : Int} : smallR a b = true ↔ -1048576 ≤ a ∧ a ≤ 1048576 ∧ 0 ≤ b ∧ b ≤ 1048576 := by
  simp [smallR, and_assoc]
theorem fin96 {m : M} {base r : Nat} (hr : base ≤ r) {x y : Int} (h : m[r]? = some (cellR [vi x, vi y])) (p : Int × Int) : (ks (xstore E.P base m 96 (pt r 0) (ratV p)) fun m' => (k0 (mload E.P m' 96 (pt r 0)) fun r => some (.ret r, m'))) = some (.ret (ratV p), m.set r (cellR [vi p.1, vi p.2])) := by
  obtain ⟨p1, p2⟩ := p
  have hlt := (List.getElem?_eq_some_iff.1 h).1
  rw [show ratV (p1, p2) = .agg #[vi p1, vi p2] from rfl, st96 hr h rfl, kss, ml96 (by rw [List.getElem?_set_self hlt]), k0s]
theorem t91_0 (n base : Nat) (hn : 130 ≤ n) {a b c d : Int} (h1 : smallR a b = true) (h2 : smallR c d = true) (m : M) : r0 (n + 1) base 91 [rV a b, rV c d] m = some (.ret (ratV (plusN a b c d)), m) := by
  rw [smallR_iff] at h1 h2
  obtain ⟨k, rfl⟩ : ∃ k, n = k + 2 := ⟨n - 2, by omega⟩
  have hb := den1_pos b
  have hd := den1_pos d
  have hb2 := den1_le (b := b) (M := 1048576) (by omega) (by omega)
  have hd2 := den1_le (b := d) (M := 1048576) (by omega) (by omega)
  refine r0_pure (f := 91) (rf := rf91) (by kernel_rfl) (by kernel_rfl) (k + 2) base _ m ((m ++ [cellR [vi a, vi b]] ++ [cellR [vi c, vi d]] ++ [cellR [.int .i64 0, .int .i64 0]]).set (m ++ [cellR [vi a, vi b]] ++ [cellR [vi c, vi d]]).length (cellR [vi (plusN a b c d).1, vi (plusN a b c d).2])) _ ?_ rfl
  show r91 (r0 (k + 2)) (k + 2) m.length (rV a b) (rV c d) m = _
  unfold r91
  rw [k1_fun, fVal_fun, bxa2, k2s, bxa2, k2s, al96, k2s]
  generalize hM : m ++ [cellR [vi a, vi b]] ++ [cellR [vi c, vi d]] ++ [cellR [.int .i64 0, .int .i64 0]] = m3
  have g1 : m3[m.length]? = some (cellR [vi a, vi b]) := by rw [← hM]; simp
  have g2 : m3[(m ++ [cellR [vi a, vi b]]).length]? = some (cellR [vi c, vi d]) := by rw [← hM]; simp
  have g3 : m3[(m ++ [cellR [vi a, vi b]] ++ [cellR [vi c, vi d]]).length]? = some (cellR [vi 0, vi 0]) := by rw [← hM]; simp; rfl
  obtain ⟨e1, e2, e3, e4⟩ := t92_0 (k + 1) m3.length (by omega) hb hb2 hd hd2 m3
  obtain ⟨e5, e6, e7⟩ := t65_0 k m3.length (b := b) e2 e3 (by omega) (by omega : a ≤ 1048576) m3
  obtain ⟨e8, e9, e10⟩ := t65_0 k m3.length (b := d) e2 e3 (by omega) (by omega : c ≤ 1048576) m3
  rw [ldb96 g1, k1s, t85_0 (k + 1), kB_same, kcs, ldb96 g2, k1s, t85_0 (k + 1), kB_same, kcs, e1, kB_same, kcs, ldb96 g1, k1s, e5, kB_same, kcs, ldb96 g2, k1s, e8, kB_same, kcs, add3, wr_id (by omega) (by omega), k1s,
    t50_0 (k + 1) _ (by omega) _ _ (by omega) (by omega) (by omega) (by omega) (by omega), kB_same, kcs]
  exact fin96 (by simp) g3 (plusN a b c d)
theorem t56_0 (n base : Nat) (hn : 130 ≤ n) {a b c d : Int} (h1 : smallR a b = true) (h2 : smallR c d = true) (m : M) : r0 (n + 1) base 56 [rV a b, rV c d] m = some (.ret (ratV (timesN a b c d)), m) := by
  rw [smallR_iff] at h1 h2
  obtain ⟨k, rfl⟩ : ∃ k, n = k + 2 := ⟨n - 2, by omega⟩
  have hb := den1_pos b
  have hd := den1_pos d
  have hb2 := den1_le (b := b) (M := 1048576) (by omega) (by omega)
  have hd2 := den1_le (b := d) (M := 1048576) (by omega) (by omega)
  have q1 := mul_bd (a := a) (b := c) (A := 1048576) (B := 1048576) (by omega) (by omega) (by omega) (by omega)
  have q2 := mul_bd (a := den1 b) (b := den1 d) (A := 1048576) (B := 1048576) (by omega) (by omega) (by omega) (by omega)
  have q3 : 1 * 1 ≤ den1 b * den1 d := Int.mul_le_mul hb hd (by omega) (by omega)
  refine r0_pure (f := 56) (rf := rf56) (by kernel_rfl) (by kernel_rfl) (k + 2) base _ m ((m ++ [cellR [vi a, vi b]] ++ [cellR [vi c, vi d]] ++ [cellR [.int .i64 0, .int .i64 0]]).set (m ++ [cellR [vi a, vi b]] ++ [cellR [vi c, vi d]]).length (cellR [vi (timesN a b c d).1, vi (timesN a b c d).2])) _ ?_ rfl
  show r56 (r0 (k + 2)) (k + 2) m.length (rV a b) (rV c d) m = _
  unfold r56
  rw [k1_fun, fVal_fun, bxa2, k2s, bxa2, k2s, al96, k2s]
  generalize hM : m ++ [cellR [vi a, vi b]] ++ [cellR [vi c, vi d]] ++ [cellR [.int .i64 0, .int .i64 0]] = m3
  have g1 : m3[m.length]? = some (cellR [vi a, vi b]) := by rw [← hM]; simp
  have g2 : m3[(m ++ [cellR [vi a, vi b]]).length]? = some (cellR [vi c, vi d]) := by rw [← hM]; simp
  have g3 : m3[(m ++ [cellR [vi a, vi b]] ++ [cellR [vi c, vi d]]).length]? = some (cellR [vi 0, vi 0]) := by rw [← hM]; simp; rfl
  rw [ff96_0, k1s, ld3, box_cell g1 0 (vi a) rfl, k1s, ff96_0, k1s, ld3, box_cell g2 0 (vi c) rfl, k1s, mul3, wr_id (by omega) (by omega), k1s, ldb96 g1, k1s, t85_0 (k + 1), kB_same, kcs, ldb96 g2, k1s, t85_0 (k + 1), kB_same, kcs, mul3, wr_id (by omega) (by omega), k1s,
    t50_0 (k + 1) _ (by omega) _ _ (by omega) (by omega) (by omega) (by omega) (by omega), kB_same, kcs]
  exact fin96 (by simp) g3 (timesN a b c d)
end Go.AM
namespace Go.AM
open Go Go.Proofs
theorem t94_0 (n base : Nat) (a : Int) (m : M) : r0 (n + 1) base 94 [vi a] m = some (.ret (.bool false), m) := by
  refine r0_pure (f := 94) (rf := rf94) (by kernel_rfl) (by kernel_rfl) n base _ m m _ ?_ rfl
  show r94 (r0 n) n m.length (vi a) m = _
  unfold r94
  rw [k1_fun, fVal_fun, neq3, k1s, decide_eq_true rfl]
  rfl
def cmp1 (a b : Int) : Int := if a < b then -1 else if a > b then 1 else 0
theorem t75_0 (n base : Nat) (a b : Int) (m : M) : r0 (n + 2) base 75 [vi a, vi b] m = some (.ret (vi (cmp1 a b)), m) := by
  refine r0_pure (f := 75) (rf := rf75) (by kernel_rfl) (by kernel_rfl) (n + 1) base _ m m _ ?_ rfl
  show r75 (r0 (n + 1)) (n + 1) m.length (vi a) (vi b) m = _
  unfold r75 cmp1
  rw [k1_fun, fVal_fun, t94_0, kcs, t94_0, kcs, kbf, kbf, lss3, k1s]
  by_cases h : a < b
  · rw [decide_eq_true h, kbt, if_pos h]; rfl
  · rw [decide_eq_false h, kbf, gtr3, k1s, if_neg h]
    by_cases h2 : a > b
    · rw [decide_eq_true h2, kbt, if_pos h2]; rfl
    · rw [decide_eq_false h2, kbf, if_neg h2]; rfl
theorem r74_L0_s (call : CallF) (fuel base : Nat) (kr : Value → M → Res2) (kx0 : Value → M → Res2) (n : Nat) (x3 x6 x7 x8 : Value) (m : M) : r74_L0 call fuel base kr kx0 (n + 1) x3 x6 x7 x8 m =
    (k1n (mbin E .lss 3 x8 x7) fun v9_2 => (kb v9_2 (k1n (mindexAddr E.P 24 x6 x8) fun v10_3 => (k1n (xload E.P m 3 v10_3) fun v11_4 => (k1n (mbin E .neq 3 v11_4 x3) fun v14_5 => (kb v14_5 (kr v11_4 m) (k1n (mbin E .add 3 x8 (.int .i64 1)) fun v16_6 => (r74_L0 call fuel base kr kx0 n x3 x6 x7 v16_6 m)))))) (kx0 x3 m))) := by
  unfold r74_L0
  rw [k1_fun]
def or2 (a b : Int) : Int := if a = 0 then b else a
theorem cellz {m : M} {p : Nat} {z : Nat} {ex : Bool} {cs : List Value} (h : m[p]? = some (rowz z ex cs)) {j : Nat} {v : Value} (hv : cs[j]? = some v) : mcell m p j = some v := by
  unfold mcell; rw [h]; exact hv
theorem t74_0 (n base : Nat) (hn : 3 ≤ n) (a b : Int) {m : M} {p : Nat} (hp : m[p]? = some (rowz 1 true [vi a, vi b])) : r0 (n + 1) base 74 [sl p 2] m = some (.ret (vi (or2 a b)), m) := by
  obtain ⟨k, rfl⟩ : ∃ k, n = k + 3 := ⟨n - 3, by omega⟩
  refine r0_pure (f := 74) (rf := rf74) (by kernel_rfl) (by kernel_rfl) (k + 3) base _ m m _ ?_ rfl
  show r74 (r0 (k + 3)) (k + 3) m.length (sl p 2) m = _
  unfold r74 or2
  rw [fVal_fun, vcall_fun, len24, k2s, i0', show (vi 0 : Value) = vi ((0 : Nat) : Int) from rfl, r74_L0_s, lss_nat, k1s, decide_eq_true (by omega), kbt, ix24 p 2 2 0 (by omega), k1s, ld3, cellz hp (j := 0) (v := vi a) rfl, k1s, neq3, k1s]
  by_cases h : a = 0
  · rw [decide_eq_true (by omega), Bool.not_true, kbf, add1 0 (by omega), k1s, r74_L0_s, lss_nat, k1s, decide_eq_true (by omega), kbt, ix24 p 2 2 1 (by omega), k1s, ld3, cellz hp (j := 1) (v := vi b) rfl, k1s, neq3, k1s, if_pos h]
    by_cases h2 : b = 0
    · rw [decide_eq_true (by omega), Bool.not_true, kbf, add1 1 (by omega), k1s, r74_L0_s, lss_nat, k1s, decide_eq_false (by omega), kbf, h2]
      rfl
    · rw [decide_eq_false (by omega), Bool.not_false, kbt]
  · rw [decide_eq_false (by omega), Bool.not_false, kbt, if_neg h]
theorem bs24 (m : M) (a b : Int) : xbuildSlice E.P m 24 2 [(0, vi a), (1, vi b)] = some (sl m.length 2, m ++ [rowz 1 true [vi a, vi b]]) := by
  have e : xbuildSlice E.P m 24 2 [(0, vi a), (1, vi b)] = xlen m fun k => xpush m (rowz 1 true [vi a, vi b]) fun m' => some (.slice (some ⟨k, 0, none⟩) 2 2, m') := by kernel_rfl
  rw [e, xlen_eq, fNat_eq, xpush_eq, fList_eq]
theorem cmpN_eq (x y x' y' : Int) : cmpN x y x' y' = or2 (cmp1 y y') (cmp1 x x') := by
  unfold cmpN or2 cmp1
  split
  · simp
  · split
    · simp
    · simp
theorem kB_ret (m m' : M) (v : Value) (h : ∃ x, m' = m ++ x) : kB m (some (.ret v, m')) = some (.ret v, m') := by
  obtain ⟨x, rfl⟩ := h
  simp [kB, fList_eq]
theorem t41_0 (n base : Nat) (hn : 5 ≤ n) (x y x' y' : Int) (m : M) : r0 (n + 1) base 41 [rV x y, rV x' y'] m = some (.ret (vi (cmpN x y x' y')), m) := by
  obtain ⟨k, rfl⟩ : ∃ k, n = k + 5 := ⟨n - 5, by omega⟩
  refine r0_pure (f := 41) (rf := rf41) (by kernel_rfl) (by kernel_rfl) (k + 5) base _ m ((m ++ [cellR [vi x, vi y]] ++ [cellR [vi x', vi y']]) ++ [rowz 1 true [vi (cmp1 y y'), vi (cmp1 x x')]]) _ ?_ rfl
  show r41 (r0 (k + 5)) (k + 5) m.length (rV x y) (rV x' y') m = _
  unfold r41
  rw [k1_fun, fVal_fun, bxa2, k2s, bxa2, k2s]
  generalize hM : m ++ [cellR [vi x, vi y]] ++ [cellR [vi x', vi y']] = m3
  have g1 : m3[m.length]? = some (cellR [vi x, vi y]) := by rw [← hM]; simp
  have g2 : m3[(m ++ [cellR [vi x, vi y]]).length]? = some (cellR [vi x', vi y']) := by rw [← hM]; simp
  rw [ff68_1, k1s, ld3, box_cell g1 (0 + 1) (vi y) rfl, k1s, ff68_1, k1s, ld3, box_cell g2 (0 + 1) (vi y') rfl, k1s, t75_0 (k + 3), kB_same, kcs, ff68_0, k1s, ld3, box_cell g1 (0 + 0) (vi x) rfl, k1s, ff68_0, k1s, ld3, box_cell g2 (0 + 0) (vi x') rfl, k1s, t75_0 (k + 3), kB_same, kcs, bs24, k2s,
    t74_0 (k + 4) _ (by omega) (cmp1 y y') (cmp1 x x') (p := m3.length) (by simp), kB_same, kcs, cmpN_eq]
theorem t71_0 (n base : Nat) {a b x y : Int} (ha : small40 a = true) (hb : small40 b = true) (hx : small40 x = true) (hy : small40 y = true) (m : M) : r0 (n + 1) base 71 [rV a b, vi x, vi y] m = some (.ret (ratV (a + x, b + y)), m) := by
  simp only [small40, Bool.and_eq_true, decide_eq_true_eq] at ha hb hx hy
  refine r0_pure (f := 71) (rf := rf71) (by kernel_rfl) (by kernel_rfl) n base _ m ((m ++ [cellR [vi a, vi b]] ++ [cellR [.int .i64 0, .int .i64 0]]).set (m ++ [cellR [vi a, vi b]]).length (cellR [vi (a + x), vi (b + y)])) _ ?_ rfl
  show r71 (r0 n) n m.length (rV a b) (vi x) (vi y) m = _
  unfold r71
  have bld68 : ∀ a b : Int, mbuild E.P 68 [(0, vi a), (1, vi b)] = some (.agg #[vi a, vi b]) := by intro a b; kernel_rfl
  rw [k1_fun, fVal_fun, bxa2, k2s, al68, k2s]
  generalize hM : m ++ [cellR [vi a, vi b]] ++ [cellR [.int .i64 0, .int .i64 0]] = m3
  have g1 : m3[m.length]? = some (cellR [vi a, vi b]) := by rw [← hM]; simp
  have g2 : m3[(m ++ [cellR [vi a, vi b]]).length]? = some (cellR [vi 0, vi 0]) := by rw [← hM]; simp; rfl
  have hlt := (List.getElem?_eq_some_iff.1 g2).1
  rw [ff68_0, k1s, ld3, box_cell g1 (0 + 0) (vi a) rfl, k1s, add3, wr_id (by omega) (by omega), k1s, ff68_1, k1s, ld3, box_cell g1 (0 + 1) (vi b) rfl, k1s, add3, wr_id (by omega) (by omega), k1s, bld68, k1s, st68 (by simp) g2 rfl, kss, ml68 (by rw [List.getElem?_set_self hlt]), k0s]
  rfl
theorem t86_0 (n base : Nat) {a b : Int} (ha : small40 a = true) (hb : small40 b = true) (h0 : 0 < b) (m : M) : r0 (n + 1) base 86 [vi a, vi b] m = some (.ret (vi (a % b)), m) := by
  simp only [small40, Bool.and_eq_true, decide_eq_true_eq] at ha hb
  refine r0_pure (f := 86) (rf := rf86) (by kernel_rfl) (by kernel_rfl) n base _ m m _ ?_ rfl
  show r86 (r0 n) n m.length (vi a) (vi b) m = _
  unfold r86
  have h1 := Int.tmod_lt_of_pos a h0
  have h2 : -b < a.tmod b := by
    exact Int.lt_tmod_of_pos a h0
  rw [k1_fun, fVal_fun, rem3 _ _ (by omega), k1s, add3, wr_id (by omega) (by omega), k1s, rem3 _ _ (by omega), k1s]
  rw [Int.tmod_eq_emod_of_nonneg (by omega), Int.add_emod_right]
  have h3 : a.tmod b % b = a % b := by
    have := Int.mul_tdiv_add_tmod a b
    conv => rhs; rw [← this]
    rw [Int.mul_add_emod_self_left]
  rw [h3]
theorem add50 (a b : Int) : mbin E .add 50 (vi a) (vi b) = some (vi (wr (a + b))) := by kernel_rfl
theorem mul50 (a b : Int) : mbin E .mul 50 (vi a) (vi b) = some (vi (wr (a * b))) := by kernel_rfl
theorem t143_0 (n base : Nat) {a b : Int} (ha : small40 a = true) (hb : small40 b = true) (m : M) : r0 (n + 1) base 143 [vi a, vi b] m = some (.ret (vi (a + b)), m) := by
  simp only [small40, Bool.and_eq_true, decide_eq_true_eq] at ha hb
  refine r0_pure (f := 143) (rf := rf143) (by kernel_rfl) (by kernel_rfl) n base _ m m _ ?_ rfl
  show r143 (r0 n) n m.length (vi a) (vi b) m = _
  unfold r143
  rw [k1_fun, fVal_fun, add50, wr_id (by omega) (by omega), k1s]
theorem t144_0 (n base : Nat) {a b : Int} (ha : small20 a = true) (hb : small20 b = true) (m : M) : r0 (n + 1) base 144 [vi a, vi b] m = some (.ret (vi (a * b)), m) := by
  simp only [small20, Bool.and_eq_true, decide_eq_true_eq] at ha hb
  have q := mul_bd (a := a) (b := b) (A := 1048576) (B := 1048576) (by omega) (by omega) (by omega) (by omega)
  refine r0_pure (f := 144) (rf := rf144) (by kernel_rfl) (by kernel_rfl) n base _ m m _ ?_ rfl
  show r144 (r0 n) n m.length (vi a) (vi b) m = _
  unfold r144
  rw [k1_fun, fVal_fun, mul50, wr_id (by omega) (by omega), k1s]
theorem scs1_ok : ∀ p ∈ scs1, SCok E p := by
  intro p hp
  simp only [scs1, List.mem_cons, List.not_mem_nil, or_false] at hp
  rcases hp with rfl | rfl | rfl | rfl | rfl | rfl | rfl <;> intro base args m v h
  · simp only [sc91] at h
    split at h
    · split at h
      · rename_i hs
        rw [Bool.and_eq_true] at hs
        simp only [Option.some.injEq] at h
        subst h
        exact sc_of 200 (fun b => t91_0 199 b (by omega) hs.1 hs.2 m) base
      · simp at h
    · simp at h
  · simp only [sc56] at h
    split at h
    · split at h
      · rename_i hs
        rw [Bool.and_eq_true] at hs
        simp only [Option.some.injEq] at h
        subst h
        exact sc_of 200 (fun b => t56_0 199 b (by omega) hs.1 hs.2 m) base
      · simp at h
    · simp at h
  · simp only [sc41] at h
    split at h
    · simp only [Option.some.injEq] at h
      subst h
      exact sc_of 200 (fun b => t41_0 199 b (by omega) _ _ _ _ m) base
    · simp at h
  · simp only [sc71] at h
    split at h
    · split at h
      · rename_i hs
        simp only [Bool.and_eq_true] at hs
        simp only [Option.some.injEq] at h
        subst h
        exact sc_of 200 (fun b => t71_0 199 b hs.1.1.1 hs.1.1.2 hs.1.2 hs.2 m) base
      · simp at h
    · simp at h
  · simp only [sc86] at h
    split at h
    · split at h
      · rename_i hs
        simp only [Bool.and_eq_true, decide_eq_true_eq] at hs
        simp only [Option.some.injEq] at h
        subst h
        exact sc_of 200 (fun b => t86_0 199 b hs.1.1 hs.1.2 hs.2 m) base
      · simp at h
    · simp at h
  · simp only [sc143] at h
    split at h
    · split at h
      · rename_i hs
        rw [Bool.and_eq_true] at hs
        simp only [Option.some.injEq] at h
        subst h
        exact sc_of 200 (fun b => t143_0 199 b hs.1 hs.2 m) base
      · simp at h
    · simp at h
  · simp only [sc144] at h
    split at h
    · split at h
      · rename_i hs
        rw [Bool.and_eq_true] at hs
        simp only [Option.some.injEq] at h
        subst h
        exact sc_of 200 (fun b => t144_0 199 b hs.1 hs.2 m) base
      · simp at h
    · simp at h
end Go.AM
