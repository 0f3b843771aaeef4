import Derived.KernelRfl
import Derived.Laws.BytesArg
import Derived.Laws.StructEq
import Derived.Test.YtoggcogekknlkaaRows
import Derived.WalkKit
import Derived.Test.YtoggcogekknlkaaAmB
import Derived.Test.YtoggcogekknlkaaAmModel
import Derived.Test.YtoggcogekknlkaaAmOps5
import Derived.Test.YtoggcogekknlkaaAmOps6
import Derived.Test.YtoggcogekknlkaaAmCode
import Derived.Test.YtoggcogekknlkaaAmX
import Derived.Test.YtoggcogekknlkaaAmEq
import Derived.Test.YtoggcogekknlkaaRBase
import Derived.Test.YtoggcogekknlkaaR95
import Derived.Test.YtoggcogekknlkaaR126
import Derived.Test.YtoggcogekknlkaaAmS
import Derived.Test.YtoggcogekknlkaaS16
import Derived.Test.YtoggcogekknlkaaS17
import Derived.Test.YtoggcogekknlkaaWB
import Derived.Test.YtoggcogekknlkaaSE
import Derived.Test.YtoggcogekknlkaaSP
set_option linter.unusedVariables false
set_option linter.unusedSimpArgs false
set_option linter.unusedSectionVars false
namespace Go.AM
open Go Go.Proofs
theorem mb45' (a b c d : Int) : mbuild E.P 45 [(0, vi a), (2, vi c), (1, vi b), (3, vi d)] = some (tV (a, b, c, d)) := by kernel_rfl
theorem mul8 (a : Nat) (h : a < 8) : mbin E .mul 3 (vi a) (.int .i64 8) = some (vi ((a * 8 : Nat) : Int)) := by
  rw [show (.int .i64 8 : Value) = vi 8 from rfl, mul3, wr_id (by omega) (by omega)]
  congr 2
theorem code_two {a b : Nat} (ha : a < 8) (hb : b < 8) : codeA 0 [(a : Int), (b : Int)] = ((a * 8 + b : Nat) : Int) := by
  have := codeA_eq [(a : Int), (b : Int)] 0 1 (fun d hd => by
    unfold col
    simp at hd
    rcases hd with rfl | rfl <;> omega) (by simp) (by simp)
  rw [show ((0 : Nat) : Int) = 0 from rfl] at this
  rw [this]
  simp [codeN]
/-- The codes used. -/
def usedU (U : Nat → Bool) (l : List Wg) : Nat → Bool := fun k => U k || decide ((k : Int) ∈ codesL l)
theorem usedU_more (U : Nat → Bool) (l : List Wg) (t : Wg) {e w : Nat} (he : t.2.1 = e) (hw : t.2.2.2 = w) : usedU (fun k => if k = w then true else if k = e then true else U k) l = usedU U (t :: l) := by
  funext k
  unfold usedU codesL
  rw [List.flatMap_cons, he, hw]
  show ((if k = w then true else if k = e then true else U k) || _) = _
  by_cases h1 : k = w
  · rw [if_pos h1, Bool.true_or, decide_eq_true (by rw [h1]; simp), Bool.or_true]
  · by_cases h2 : k = e
    · rw [if_neg h1, if_pos h2, Bool.true_or, decide_eq_true (by rw [h2]; simp), Bool.or_true]
    · rw [if_neg h1, if_neg h2]
      congr 1
      refine decide_eq_decide.2 ⟨fun h => List.mem_append.2 (.inr h), fun h => ?_⟩
      rcases List.mem_append.1 h with h | h
      · simp at h; omega
      · exact h
set_option maxHeartbeats 2000000 in
theorem loop44b (call : CallF) (fuel base : Nat) (kx : Value → Value → Value → Value → Value → M → Res2) {m0 : M} {v0 v1 : Value} {a b : List Wg} (hbb : base ≤ m0.length) (hA : Tiles m0 v0 a) (hT : Tiles m0 v1 b) (hca : ∀ t ∈ a, colT t) (hcb : ∀ t ∈ b, colT t) (hb100 : b.length ≤ 100) {i : Nat} (hi : i < a.length) :
    ∀ (n j : Nat) (m : M) (vL : Value) (L : List Wg) (U : Nat → Bool), GT (m0.length + 1) m vL L → BoolM m m0.length U → Keeps m0.length m0 m → j ≤ b.length → b.length < n + j → L.length + (b.length - j) ≤ 900 →
      ∃ (m' : M) (vL' : Value), r44_L2 call fuel base kx n v0 v1 (sl m0.length 64) vL (vi i) (vi j) m = kx v0 v1 (sl m0.length 64) vL' (vi i) m' ∧ GT (m0.length + 1) m' vL' (L ++ pRow a[i] (b.drop j)) ∧ BoolM m' m0.length (usedU U (pRow a[i] (b.drop j))) ∧ Keeps m0.length m0 m'
  | 0, j, m, vL, L, U, hL, hU, hk, h1, hn, hs => by omega
  | n + 1, j, m, vL, L, U, hL, hU, hk, h1, hn, hs => by
    have hAm := hA.keeps hk
    have hTm := hT.keeps hk
    have hkl := hk.1
    have hul := (List.getElem?_eq_some_iff.1 hU).1
    rw [r44_L2_s, hTm.len, k2s, lss3, k1s]
    by_cases hlt : j < b.length
    · have hsa : tl a (i : Int) = a[i] := by
        unfold tl
        rw [Int.toNat_natCast, List.getD_eq_getElem?_getD, List.getElem?_eq_getElem hi]
        rfl
      have hsb : tl b (j : Int) = b[j] := by
        unfold tl
        rw [Int.toNat_natCast, List.getD_eq_getElem?_getD, List.getElem?_eq_getElem hlt]
        rfl
      have c1 := hca a[i] (List.getElem_mem hi)
      have c2 := hcb b[j] (List.getElem_mem hlt)
      have ih := fun (m : M) (vL : Value) (L : List Wg) (U : Nat → Bool) => loop44b call fuel base kx hbb hA hT hca hcb hb100 hi n (j + 1) m vL L U
      generalize a[i] = s at hsa c1 ih ⊢
      rw [List.drop_eq_getElem_cons hlt]
      generalize b[j] = t at hsb c2 ⊢
      obtain ⟨k1, e1, l1⟩ := colNat c1.2.1
      obtain ⟨k3, e3, l3⟩ := colNat c1.2.2.2
      obtain ⟨q1, f1, p1⟩ := colNat c2.2.1
      obtain ⟨q3, f3, p3⟩ := colNat c2.2.2.2
      rw [decide_eq_true (show (j : Int) < b.length by omega), kbt, hAm.s2 (c := (i : Int)) (by omega) (by omega), hTm.s0 (c := (j : Int)) (by omega) (by omega), hsa, hsb, neq3, k1s]
      by_cases hne : s.2.2.1 = t.1
      · have hrow : pRow s (t :: b.drop (j + 1)) = jT s t :: pRow s (b.drop (j + 1)) := by unfold pRow; rw [List.filter_cons_of_pos (by simp [hne])]; rfl
        have hjt : jT s t = (s.1, ((k1 * 8 + q1 : Nat) : Int), t.2.2.1, ((k3 * 8 + q3 : Nat) : Int)) := by
          unfold jT
          rw [e1, e3, f1, f3, code_two l1 p1, code_two l3 p3]
        have hbox : (m ++ [cellR (tC (jT s t))])[m.length]? = some (cellR [vi s.1, vi ((k1 * 8 + q1 : Nat) : Int), vi t.2.2.1, vi ((k3 * 8 + q3 : Nat) : Int)]) := by
          rw [hjt]; simp
        have hU1 : BoolM (m ++ [cellR (tC (jT s t))]) m0.length U := by unfold BoolM; rw [List.getElem?_append_left hul]; exact hU
        have hl1 : (m ++ [cellR (tC (jT s t))]).length = m.length + 1 := by simp
        have hLlt : ∀ r n', vL = sl r n' → r < m.length := fun r n' e => Grow.lt hL e
        have hLge : ∀ r n', vL = sl r n' → m0.length < r := fun r n' e => by
          rcases hL with ⟨_, h2, _⟩ | ⟨r', g1, g2, g3, _⟩
          · rw [h2] at e; simp at e
          · rw [g3] at e; simp at e; omega
        have ho1 : ∀ r, r < m.length → (m ++ [cellR (tC (jT s t))])[r]? = m[r]? := fun r hr => List.getElem?_append_left hr
        rw [decide_eq_true hne, Bool.not_true, kbf, hAm.s0 (c := (i : Int)) (by omega) (by omega), hTm.s2 (c := (j : Int)) (by omega) (by omega), hAm.s1 (c := (i : Int)) (by omega) (by omega), hsa, hsb, e1, mul8 k1 l1, k1s, hTm.s1 (c := (j : Int)) (by omega) (by omega), hsb, f1, addC (k1 * 8) q1 (by omega), k1s, hAm.s3 (c := (i : Int)) (by omega) (by omega), hsa, e3, mul8 k3 l3, k1s, hTm.s3 (c := (j : Int)) (by omega) (by omega), hsb, f3, addC (k3 * 8) q3 (by omega), k1s, mb45', k1s, ← hjt, letT (by omega)]
        generalize m ++ [cellR (tC (jT s t))] = m1 at hbox hU1 hl1 ho1
        obtain ⟨m2, x2, U2, y2, o2⟩ := hU1.st hbb (show k1 * 8 + q1 < 64 by omega)
        have hbox2 : m2[m.length]? = some (cellR [vi s.1, vi ((k1 * 8 + q1 : Nat) : Int), vi t.2.2.1, vi ((k3 * 8 + q3 : Nat) : Int)]) := by rw [o2 m.length (by omega)]; exact hbox
        obtain ⟨m3, x3, U3, y3, o3⟩ := U2.st hbb (show k3 * 8 + q3 < 64 by omega)
        have hbox3 : m3[m.length]? = some (cellR [vi s.1, vi ((k1 * 8 + q1 : Nat) : Int), vi t.2.2.1, vi ((k3 * 8 + q3 : Nat) : Int)]) := by rw [o3 m.length (by omega)]; exact hbox2
        have hL3 : GT (m0.length + 1) m3 vL L := Grow.via hL fun r n' e => by
          have g1 := hLlt r n' e
          have g2 := hLge r n' e
          rw [o3 r (by omega), o2 r (by omega), ho1 r g1]
        rw [(boxF hbox).1, x2, (boxF hbox2).2.1, x3, (boxF hbox3).2.2]
        obtain ⟨vL', m4, x4, g4, k4, _, _⟩ := gg22 hL3 (by omega) (show base ≤ m0.length + 1 by omega) (show m0.length + 1 ≤ m3.length by omega) s.1 ((k1 * 8 + q1 : Nat) : Int) t.2.2.1 ((k3 * 8 + q3 : Nat) : Int)
        rw [x4, add1 j (by omega), k1s]
        have hL4 : GT (m0.length + 1) m4 vL' (L ++ [jT s t]) := by
          show Grow 4 (m0.length + 1) m4 vL' ((L ++ [jT s t]).flatMap tC) (L ++ [jT s t]).length
          rw [List.flatMap_append, List.length_append, hjt]
          simpa using g4
        have hU4 : BoolM m4 m0.length (fun k => if k = k3 * 8 + q3 then true else if k = k1 * 8 + q1 then true else U k) := by
          unfold BoolM
          rw [k4.2 m0.length (by omega)]
          exact U3
        have hk4 : Keeps m0.length m0 m4 := ⟨by have := k4.1; omega, fun r hr => by rw [k4.2 r (by omega), o3 r (by omega), o2 r (by omega), ho1 r (by omega)]; exact hk.2 r hr⟩
        obtain ⟨m', vL'', z1, z2, z3, z4⟩ := ih m4 vL' (L ++ [jT s t]) _ hL4 hU4 hk4 (by omega) (by omega) (by simp; omega)
        rw [usedU_more U _ (jT s t) (by rw [hjt]) (by rw [hjt]), ← hrow] at z3
        refine ⟨m', vL'', z1, ?_, z3, z4⟩
        rw [hrow, show L ++ jT s t :: pRow s (b.drop (j + 1)) = L ++ [jT s t] ++ pRow s (b.drop (j + 1)) by simp]
        exact z2
      · rw [decide_eq_false hne, Bool.not_false, kbt, add1 j (by omega), k1s, show pRow s (t :: b.drop (j + 1)) = pRow s (b.drop (j + 1)) by unfold pRow; rw [List.filter_cons_of_neg (by simp [hne])]]
        exact ih m vL L U hL hU hk (by omega) (by omega) (by omega)
    · have hj : j = b.length := by omega
      rw [decide_eq_false (show ¬ (j : Int) < b.length by omega), kbf, List.drop_eq_nil_of_le (by omega)]
      refine ⟨m, vL, rfl, by simpa [pRow] using hL, ?_, hk⟩
      have : usedU U (pRow a[i] []) = U := by
        funext k
        simp [usedU, pRow, codesL]
      rw [this]
      exact hU
end Go.AM
namespace Go.AM
open Go Go.Proofs
theorem usedU_app (U : Nat → Bool) (l l' : List Wg) : usedU (usedU U l) l' = usedU U (l ++ l') := by
  funext k
  unfold usedU codesL
  rw [List.flatMap_append, Bool.or_assoc]
  congr 1
  by_cases h1 : (k : Int) ∈ l.flatMap fun t => [t.2.1, t.2.2.2]
  · rw [decide_eq_true h1, Bool.true_or, decide_eq_true (List.mem_append.2 (.inl h1))]
  · rw [decide_eq_false h1, Bool.false_or]
    refine decide_eq_decide.2 ⟨fun h => List.mem_append.2 (.inr h), fun h => ?_⟩
    rcases List.mem_append.1 h with h | h
    · exact absurd h h1
    · exact h
theorem pRow_len (s : Wg) (b : List Wg) : (pRow s b).length ≤ b.length := by
  unfold pRow
  rw [List.length_map]
  exact List.length_filter_le _ _
theorem loop44a (call : CallF) (fuel base : Nat) (kx : Value → Value → M → Res2) {m0 : M} {v0 v1 : Value} {a b : List Wg} (hbb : base ≤ m0.length) (hA : Tiles m0 v0 a) (hT : Tiles m0 v1 b) (hca : ∀ t ∈ a, colT t) (hcb : ∀ t ∈ b, colT t) (ha : a.length ≤ 16) (hb : b.length ≤ 16) (hf : 100 ≤ fuel) :
    ∀ (n i : Nat) (m : M) (vL : Value) (L : List Wg) (U : Nat → Bool), GT (m0.length + 1) m vL L → BoolM m m0.length U → Keeps m0.length m0 m → i ≤ a.length → a.length < n + i → L.length ≤ i * 16 →
      ∃ (m' : M) (vL' : Value), r44_L0 call fuel base kx n v0 v1 (sl m0.length 64) vL (vi i) m = kx (sl m0.length 64) vL' m' ∧ GT (m0.length + 1) m' vL' (L ++ pAll (a.drop i) b) ∧ BoolM m' m0.length (usedU U (pAll (a.drop i) b)) ∧ Keeps m0.length m0 m' ∧ (L ++ pAll (a.drop i) b).length ≤ 256
  | 0, i, m, vL, L, U, hL, hU, hk, h1, hn, hs => by omega
  | n + 1, i, m, vL, L, U, hL, hU, hk, h1, hn, hs => by
    rw [r44_L0_s, (hA.keeps hk).len, k2s, lss3, k1s]
    by_cases hlt : i < a.length
    · obtain ⟨m2, vL2, e2, g2, u2, k2⟩ := loop44b call fuel base (fun y0_52 y1_53 y6_54 y7_55 y8_56 m => (k1n (mbin E .add 3 y8_56 (.int .i64 1)) fun v33_57 => (r44_L0 call fuel base kx n y0_52 y1_53 y6_54 y7_55 v33_57 m))) hbb hA hT hca hcb (by omega) hlt fuel 0 m vL L U hL hU hk (Nat.zero_le _) (by omega) (by omega)
      rw [List.drop_zero] at g2 u2
      have hp := pRow_len a[i] b
      obtain ⟨m', vL', z1, z2, z3, z4, z5⟩ := loop44a call fuel base kx hbb hA hT hca hcb ha hb hf n (i + 1) m2 vL2 _ _ g2 u2 k2 (by omega) (by omega) (by rw [List.length_append]; omega)
      have hd : pAll (a.drop i) b = pRow a[i] b ++ pAll (a.drop (i + 1)) b := by rw [List.drop_eq_getElem_cons hlt]; rfl
      rw [usedU_app, ← hd] at z3
      rw [List.append_assoc, ← hd] at z2 z5
      rw [decide_eq_true (show (i : Int) < a.length by omega), kbt, i0, e2, add1 i (by omega), k1s]
      exact ⟨m', vL', z1, z2, z3, z4, z5⟩
    · have hi : i = a.length := by omega
      rw [decide_eq_false (show ¬ (i : Int) < a.length by omega), kbf, List.drop_eq_nil_of_le (by omega)]
      refine ⟨m, vL, rfl, by simpa [pAll] using hL, ?_, hk, by simp [pAll]; omega⟩
      have : usedU U (pAll [] b) = U := by
        funext k
        simp [usedU, pAll, codesL]
      rw [this]
      exact hU
theorem pAll_code {a b : List Wg} (hca : ∀ t ∈ a, colT t) (hcb : ∀ t ∈ b, colT t) : ∀ t ∈ pAll a b, codeT t := fun t ht => by
  obtain ⟨s, hs, h2⟩ := List.mem_flatMap.1 ht
  obtain ⟨u, hu, rfl⟩ := List.mem_map.1 h2
  have c1 := hca s hs
  have c2 := hcb u (List.mem_filter.1 hu).1
  obtain ⟨k1, e1, l1⟩ := colNat c1.2.1
  obtain ⟨k3, e3, l3⟩ := colNat c1.2.2.2
  obtain ⟨q1, f1, p1⟩ := colNat c2.2.1
  obtain ⟨q3, f3, p3⟩ := colNat c2.2.2.2
  unfold codeT jT
  rw [e1, e3, f1, f3, code_two l1 p1, code_two l3 p3]
  exact ⟨⟨by show (0 : Int) ≤ ((_ : Nat) : Int); omega, by show ((_ : Nat) : Int) < 64; omega⟩, by show (0 : Int) ≤ ((_ : Nat) : Int); omega, by show ((_ : Nat) : Int) < 64; omega⟩
abbrev uAll (a b : List Wg) : Nat → Bool := usedU (fun _ => false) (pAll a b)
abbrev outL (a b : List Wg) : List Wg := dd ((pAll a b).map (renF fun j => (cU (uAll a b) j : Nat))) []
def rfE (a b : List Wg) : Nat := if isS a && isS b then (if 16 < (outL a b).length ∨ 8 < cU (uAll a b) 64 then 8 else 0) else 2
theorem dd_len : ∀ (l acc : List Wg), (dd l acc).length ≤ acc.length + l.length
  | [], acc => Nat.le_refl _
  | t :: l, acc => by
    have := dd_len l (if t ∈ acc then acc else acc ++ [t])
    show (dd l (if t ∈ acc then acc else acc ++ [t])).length ≤ _
    have h2 : (if t ∈ acc then acc else acc ++ [t]).length ≤ acc.length + 1 := by
      split
      · omega
      · simp
    simp only [List.length_cons]
    omega
set_option maxHeartbeats 1000000 in
theorem t44 (n base : Nat) {m : M} {v0 v1 : Value} {a b : List Wg} (hn : 3000 ≤ n) (hbb : base ≤ m.length) (hA : Tiles m v0 a) (hT : Tiles m v1 b) :
    ∃ (m' : M) (v : Value), rt (n + 2) base 44 [v0, v1] m = some (.ret (.tuple #[v, vi (rfE a b)]), m') ∧ Tiles m' v (if rfE a b = 0 then outL a b else []) ∧ Keeps m.length m m' := by
  rw [rt_imp (f := 44) (rf := rf44) (by kernel_rfl) (by kernel_rfl) (by kernel_rfl) (n + 1) base]
  show ∃ (m' : M) (v : Value), r44 (rt (n + 1)) (n + 1) base v0 v1 m = _ ∧ _
  unfold r44
  rw [k1_fun, vcall_fun, t25 n _ (by omega) hA, kcs, not4, k1s]
  cases hSa : isS a with
  | false =>
    have hE : rfE a b = 2 := by unfold rfE; rw [hSa]; rfl
    rw [Bool.not_false, kbt, hE]
    exact ⟨m, nilS, rfl, .inl ⟨rfl, .inl rfl⟩, Keeps.refl _ _⟩
  | true =>
    rw [Bool.not_true, kbf, t25 n _ (by omega) hT, kcs, not4, k1s]
    cases hSb : isS b with
    | false =>
      have hE : rfE a b = 2 := by unfold rfE; rw [hSa, hSb]; rfl
      rw [Bool.not_false, kbt, hE]
      exact ⟨m, nilS, rfl, .inl ⟨rfl, .inl rfl⟩, Keeps.refl _ _⟩
    | true =>
      obtain ⟨_, ha16, hca⟩ := isS_facts hSa
      obtain ⟨_, hb16, hcb⟩ := isS_facts hSb
      have hE : rfE a b = if 16 < (outL a b).length ∨ 8 < cU (uAll a b) 64 then 8 else 0 := by unfold rfE; rw [hSa, hSb, if_pos (show (true && true) = true from rfl)]
      have hU0 : BoolM (m ++ [rowz 1 true (repCells [.bool false] 64)]) m.length (fun _ => false) := by
        unfold BoolM
        rw [repCells_range1]
        simp
      have hk0 : Keeps m.length m (m ++ [rowz 1 true (repCells [.bool false] 64)]) := Keeps.push _ m (Nat.le_refl _) _
      obtain ⟨m1, vL, e1, g1, u1, k1, l1⟩ := loop44a (rt (n + 1)) (n + 1) base (fun y6_58 y7_59 m => (k2 (xmakeSlice E.P m 33 (vi (64 : Nat)) (vi (64 : Nat))) fun v98_60 m => (r44_L4 (rt (n + 1)) (n + 1) base (fun y7_68 y11_69 y12_70 m => (r44_L6 (rt (n + 1)) (n + 1) base (fun y12_107 y14_108 m => (k2 (vcalln E.P base m .len [22] [y14_108]) fun v157_109 m => (k1n (mbin E .gtr 3 v157_109 (.int .i64 16)) fun v158_110 => (kb v158_110 (some (.ret (.tuple #[(.slice none 0 0), (.int .i64 8)]), m)) (k1n (mbin E .gtr 3 y12_107 (.int .i64 8)) fun v161_111 => (kb v161_111 (some (.ret (.tuple #[(.slice none 0 0), (.int .i64 8)]), m)) (some (.ret (.tuple #[y14_108, vi (0 : Nat)]), m)))))))) (n + 1) y7_68 y11_69 y12_70 (.slice none 0 0) (vi (0 : Nat)) m)) (n + 1) y6_58 y7_59 v98_60 (vi (0 : Nat)) (vi (0 : Nat)) m))) hbb hA hT hca hcb ha16 hb16 (by omega) (n + 1) 0 _ nilS [] (fun _ => false) (.inl ⟨rfl, rfl, rfl⟩) hU0 hk0 (Nat.zero_le _) (by omega) (by simp)
      rw [List.drop_zero, List.nil_append] at g1 l1
      rw [List.drop_zero] at u1
      have hm1 := k1.1
      have hul := (List.getElem?_eq_some_iff.1 u1).1
      have u2 : BoolM (m1 ++ [rowz 1 true (repCells [.int .i64 0] 64)]) m.length (uAll a b) := by unfold BoolM; rw [List.getElem?_append_left hul]; exact u1
      have A2 : ArrM true (m1 ++ [rowz 1 true (repCells [.int .i64 0] 64)]) m1.length 64 (fun j => if j < 0 then (cU (uAll a b) j : Nat) else 0) := by
        unfold ArrM
        rw [repCells_range1]
        simp
        rfl
      obtain ⟨m3, e3, A3, l3, o3⟩ := loop44d (rt (n + 1)) (n + 1) base (fun y7_68 y11_69 y12_70 m => (r44_L6 (rt (n + 1)) (n + 1) base (fun y12_107 y14_108 m => (k2 (vcalln E.P base m .len [22] [y14_108]) fun v157_109 m => (k1n (mbin E .gtr 3 v157_109 (.int .i64 16)) fun v158_110 => (kb v158_110 (some (.ret (.tuple #[(.slice none 0 0), (.int .i64 8)]), m)) (k1n (mbin E .gtr 3 y12_107 (.int .i64 8)) fun v161_111 => (kb v161_111 (some (.ret (.tuple #[(.slice none 0 0), (.int .i64 8)]), m)) (some (.ret (.tuple #[y14_108, vi (0 : Nat)]), m)))))))) (n + 1) y7_68 y11_69 y12_70 (.slice none 0 0) (vi (0 : Nat)) m)) vL (U := uAll a b) (show base ≤ m1.length by omega) (show m.length ≠ m1.length by omega) (n + 1) 0 _ u2 A2 (Nat.zero_le _) (by omega)
      have hg3 : GT (m.length + 1) m3 vL (pAll a b) := Grow.via g1 fun r n' e => by
        have := Grow.lt g1 e
        rw [o3 r (by omega), List.getElem?_append_left this]
      have hm3 : m3.length = m1.length + 1 := by rw [l3]; simp
      obtain ⟨m4, vO, e4, g4, k4⟩ := loop44f (rt (n + 1)) (n + 1) base (fun y12_107 y14_108 m => (k2 (vcalln E.P base m .len [22] [y14_108]) fun v157_109 m => (k1n (mbin E .gtr 3 v157_109 (.int .i64 16)) fun v158_110 => (kb v158_110 (some (.ret (.tuple #[(.slice none 0 0), (.int .i64 8)]), m)) (k1n (mbin E .gtr 3 y12_107 (.int .i64 8)) fun v161_111 => (kb v161_111 (some (.ret (.tuple #[(.slice none 0 0), (.int .i64 8)]), m)) (some (.ret (.tuple #[y14_108, vi (0 : Nat)]), m)))))))) (vi (cU (uAll a b) 64)) (show base ≤ m3.length by omega) hg3.tiles (by omega) (pAll_code hca hcb) A3 (by omega) (n + 1) 0 m3 nilS [] (.inl ⟨rfl, rfl, rfl⟩) (Keeps.refl _ _) (Nat.zero_le _) (by omega) (Nat.le_refl _)
      rw [List.drop_zero] at g4
      have hkk : Keeps m.length m m4 := k1.trans (show Keeps m.length m1 m4 from ⟨by have := k4.1; omega, fun r hr => by rw [k4.2 r (by omega), o3 r (by omega), List.getElem?_append_left (by omega)]⟩)
      have hlen := dd_len ((pAll a b).map (renF fun j => (cU (uAll a b) j : Nat))) []
      rw [Bool.not_true, kbf, show (.int .i64 64 : Value) = vi (64 : Nat) from rfl, mk91 m 64 (by omega), k2s, i0, e1, mkM33 m1 64 (by omega), k2s]
      rw [show cU (uAll a b) 0 = 0 from rfl] at e3
      rw [e3, e4]
      rw [g4.tiles.len, k2s, show (.int .i64 16 : Value) = vi (16 : Nat) from rfl, gtr3, k1s]
      by_cases h16 : 16 < (outL a b).length
      · have hE8 : rfE a b = 8 := by rw [hE, if_pos (.inl h16)]
        rw [decide_eq_true (show (((outL a b).length : Nat) : Int) > (16 : Nat) by omega), kbt, hE8]
        exact ⟨m4, nilS, rfl, .inl ⟨rfl, .inl rfl⟩, hkk⟩
      · rw [decide_eq_false (show ¬ (((outL a b).length : Nat) : Int) > (16 : Nat) by omega), kbf, show (.int .i64 8 : Value) = vi (8 : Nat) from rfl, gtr3, k1s]
        by_cases h8 : 8 < cU (uAll a b) 64
        · have hE8 : rfE a b = 8 := by rw [hE, if_pos (.inr h8)]
          rw [decide_eq_true (show ((cU (uAll a b) 64 : Nat) : Int) > (8 : Nat) by omega), kbt, hE8]
          exact ⟨m4, nilS, rfl, .inl ⟨rfl, .inl rfl⟩, hkk⟩
        · have hE0 : rfE a b = 0 := by rw [hE, if_neg (by omega)]
          rw [decide_eq_false (show ¬ ((cU (uAll a b) 64 : Nat) : Int) > (8 : Nat) by omega), kbf, hE0]
          exact ⟨m4, vO, rfl, by rw [if_pos rfl]; exact g4.tiles, hkk⟩
end Go.AM
namespace Go.AM
open Go Go.Proofs
theorem idx_inj {P : List Int} {x y : Int} (hx : x ∈ P) (hy : y ∈ P) (h : idxC P x 0 = idxC P y 0) : x = y := by
  obtain ⟨k, e1, _, g1⟩ := idxC_mem (i := 0) hx
  obtain ⟨q, e2, _, g2⟩ := idxC_mem (i := 0) hy
  rw [e1, e2] at h
  have : k = q := by omega
  rw [← g1, ← g2, this]
theorem prod_same {a b : List Wg} {P : List Int} (hSa : isS a = true) (hSb : isS b = true) (hD : Dist (jAll a b ([], [])).2 P) : P.length = cU (uAll a b) 64 ∧ outL a b = (jAll a b ([], [])).1.map (rnT P) := by
  obtain ⟨_, _, hca⟩ := isS_facts hSa
  obtain ⟨_, _, hcb⟩ := isS_facts hSb
  have hcode := pAll_code hca hcb
  rw [jAll_eq] at hD ⊢
  have hD' : Dist (codesL (pAll a b)) P := by simpa using hD
  have hU : ∀ k : Nat, k < 64 → (uAll a b k = true ↔ (k : Int) ∈ codesL (pAll a b)) := fun k _ => by
    show (false || decide ((k : Int) ∈ codesL (pAll a b))) = true ↔ _
    simp
  have hP := dist_codes hD' (uAll a b) (fun x hx => by
    obtain ⟨t, ht, h2⟩ := List.mem_flatMap.1 hx
    obtain ⟨c1, c2⟩ := hcode t ht
    simp at h2
    rcases h2 with rfl | rfl
    · exact c1
    · exact c2) hU
  refine ⟨by rw [hP, List.length_map, len_filter], ?_⟩
  have hmem : ∀ t ∈ pAll a b, t.2.1 ∈ P ∧ t.2.2.2 ∈ P := fun t ht => ⟨(hD'.2 _).2 (List.mem_flatMap.2 ⟨t, ht, by simp⟩), (hD'.2 _).2 (List.mem_flatMap.2 ⟨t, ht, by simp⟩)⟩
  have hidx : ∀ x : Int, x ∈ P → 0 ≤ x → x < 64 → idxC P x 0 = (cU (uAll a b) x.toNat : Nat) := fun x hx h0 h1 => by
    have hk : x.toNat < 64 := by omega
    have hx2 : ((x.toNat : Nat) : Int) = x := by omega
    have hu : uAll a b x.toNat = true := (hU _ hk).2 (by rw [hx2]; exact (hD'.2 _).1 hx)
    have := idx_filter (uAll a b) 64 x.toNat hk hu
    rw [← hP, hx2] at this
    exact this
  have hmap : (pAll a b).map (renF fun j => (cU (uAll a b) j : Nat)) = (pAll a b).map (rnT P) := List.map_congr_left fun t ht => by
    obtain ⟨c1, c2⟩ := hcode t ht
    obtain ⟨m1, m2⟩ := hmem t ht
    unfold renF rnT
    rw [hidx _ m1 c1.1 c1.2, hidx _ m2 c2.1 c2.2]
  show dd ((pAll a b).map (renF fun j => (cU (uAll a b) j : Nat))) [] = (dd (pAll a b) []).map (rnT P)
  rw [hmap]
  refine dd_map (f := rnT P) (Q := fun t => t.2.1 ∈ P ∧ t.2.2.2 ∈ P) (fun s t hs ht h => ?_) (pAll a b) [] hmem (by simp)
  obtain ⟨s1, s2, s3, s4⟩ := s
  obtain ⟨p1, p2, p3, p4⟩ := t
  unfold rnT at h
  simp only [Prod.mk.injEq] at h
  obtain ⟨h1, h2, h3, h4⟩ := h
  have e2 : s2 = p2 := idx_inj hs.1 ht.1 h2
  have e4 : s4 = p4 := idx_inj hs.2 ht.2 h4
  rw [h1, e2, h3, e4]
theorem t12 (n0 base : Nat) (hn0 : 3000 ≤ n0) {m : M} (hbb : base ≤ m.length) {v0 v1 : Value} {a b : List Wg} (hA : Tiles m v0 a) (hT : Tiles m v1 b) : ∃ m', rt (n0 + 4) base 12 [v0, v1] m = some (.ret (.bool true), m') := by
  rw [rt_imp (f := 12) (rf := rf12) (by kernel_rfl) (by kernel_rfl) (by kernel_rfl) (n0 + 3) base]
  show ∃ m', r12 (rt (n0 + 3)) (n0 + 3) base v0 v1 m = _
  unfold r12
  rw [k1_fun, fVal_fun, vcall_fun, hA.len, k2s, show (.int .i64 40 : Value) = vi (40 : Nat) from rfl, gtr3, k1s]
  by_cases h1 : a.length ≤ 40
  · rw [decide_eq_false (show ¬ ((a.length : Nat) : Int) > (40 : Nat) by omega), kbf, hT.len, k2s, gtr3, k1s]
    by_cases h2 : b.length ≤ 40
    · obtain ⟨m1, v, P, e1, T1, hD, k1⟩ := t43 n0 base hn0 hbb hA hT
      obtain ⟨m2, u, e2, T2, k2⟩ := t44 (n0 + 1) base (by omega) (Nat.le_trans hbb k1.1) (hA.keeps k1) (hT.keeps k1)
      have hE : prE a b P = rfE a b ∧ (if rfE a b = 0 then outL a b else []) = (if prE a b P = 0 then (jAll a b ([], [])).1.map (rnT P) else []) := by
        cases hSa : isS a with
        | false => unfold prE rfE; rw [hSa]; exact ⟨rfl, rfl⟩
        | true =>
          cases hSb : isS b with
          | false => unfold prE rfE; rw [hSa, hSb]; exact ⟨rfl, rfl⟩
          | true =>
            obtain ⟨p1, p2⟩ := prod_same hSa hSb (hD hSa hSb)
            have p3 : (outL a b).length = (jAll a b ([], [])).1.length := by rw [p2, List.length_map]
            unfold prE rfE
            rw [p1, p3, p2]
            exact ⟨rfl, rfl⟩
      rw [decide_eq_false (show ¬ ((b.length : Nat) : Int) > (40 : Nat) by omega), kbf, e1, kcs, ex20, k1s, ex21, k1s, e2, kcs, ex20, k1s, ex21, k1s, hE.1, eql26, k1s, decide_eq_true rfl, kbt]
      rw [hE.2] at T2
      have hll : (if prE a b P = 0 then (jAll a b ([], [])).1.map (rnT P) else []).length ≤ 1000 := by
        rw [← hE.2]
        split
        · rename_i h0
          have hS : (isS a && isS b) = true := by
            cases hab : isS a && isS b with
            | true => rfl
            | false => unfold rfE at h0; rw [hab] at h0; simp at h0
          unfold rfE at h0
          rw [hS, if_pos rfl] at h0
          by_cases h9 : 16 < (outL a b).length ∨ 8 < cU (uAll a b) 64
          · rw [if_pos h9] at h0; omega
          · omega
        · simp
      rw [t21 (n0 + 2) base (T1.keeps (k2.mono (Nat.le_refl _))) T2 hll (by omega), kcs, kbt, rt16, kcs]
      exact ⟨m2, rfl⟩
    · rw [decide_eq_true (show ((b.length : Nat) : Int) > (40 : Nat) by omega), kbt, rt16, kcs]
      exact ⟨m, rfl⟩
  · rw [decide_eq_true (show ((a.length : Nat) : Int) > (40 : Nat) by omega), kbt, rt16, kcs]
    exact ⟨m, rfl⟩
theorem law12 {m : M} {v0 v1 : Value} {a b : List Wg} (hA : Tiles m v0 a) (hT : Tiles m v1 b) : ∃ m', rt 80000 m.length 12 [v0, v1] m = some (.ret (.bool true), m') :=
  t12 79996 m.length (by omega) (Nat.le_refl _) hA hT
end Go.AM
