import Derived.Carry
import Derived.Handy
import Derived.KernelRfl
import Derived.Laws.BytesArg
import Derived.Laws.StructEq
import Derived.Maps.AppendAt
import Derived.Maps.OwnOps
import Derived.Maps.RangeRun
import Derived.Maps.RangeWalk
import Derived.Test.YtcgohiiihhplgaaDoorRows
import Derived.WalkKit
import Derived.Test.YtcgohiiihhplgaaDoorAmB
import Derived.Test.YtcgohiiihhplgaaDoorAmModel
import Derived.Test.YtcgohiiihhplgaaDoorAmOps6
import Derived.Test.YtcgohiiihhplgaaDoorAmCode
import Derived.Test.YtcgohiiihhplgaaDoorAmK2
import Derived.Test.YtcgohiiihhplgaaDoorAmEq
import Derived.Test.YtcgohiiihhplgaaDoorRBase
import Derived.Test.YtcgohiiihhplgaaDoorB1
import Derived.Test.YtcgohiiihhplgaaDoorK1
import Derived.Test.YtcgohiiihhplgaaDoorR6
import Derived.Test.YtcgohiiihhplgaaDoorR41
import Derived.Test.YtcgohiiihhplgaaDoorR42
import Derived.Test.YtcgohiiihhplgaaDoorD3
import Derived.Test.YtcgohiiihhplgaaDoorK3
import Derived.Test.YtcgohiiihhplgaaDoorAmS
import Derived.Test.YtcgohiiihhplgaaDoorK4
import Derived.Test.YtcgohiiihhplgaaDoorK5
import Derived.Test.YtcgohiiihhplgaaDoorK6
import Derived.Test.YtcgohiiihhplgaaDoorS13
import Derived.Test.YtcgohiiihhplgaaDoorS14
import Derived.Test.YtcgohiiihhplgaaDoorD0
import Derived.Test.YtcgohiiihhplgaaDoorDet1
import Derived.Test.YtcgohiiihhplgaaDoorDH1
import Derived.Test.YtcgohiiihhplgaaDoorD4
import Derived.Test.YtcgohiiihhplgaaDoorM1
set_option linter.unusedVariables false
set_option linter.unusedSimpArgs false
set_option linter.unusedSectionVars false
namespace Go.AM
open Go Go.Proofs
open Go.AM.Kuhn hiding Run St
/-- Black cells: x + y is even. -/
def isBl (i : Nat) : Bool := (i / 8 + i % 8) % 2 == 0
/-- Neighbours. -/
def adj (i j : Nat) : Prop := (nbB (one i)).getLsbD j = true
def adjB (i j : Nat) : Bool := (nbB (one i)).getLsbD j
theorem nb_one (s : B) (j : Nat) (hj : j < 64) : (nbB s).getLsbD j = true ↔ ∃ i, i < 64 ∧ s.getLsbD i = true ∧ adjB i j = true := by
  have key : ∀ i, i < 64 → (adjB i j = true ↔ (j % 8 ≠ 7 ∧ i = j + 1) ∨ (j % 8 ≠ 0 ∧ i = j - 1) ∨ i = j + 8 ∨ (8 ≤ j ∧ i = j - 8)) := by
    intro i hi
    unfold adjB
    rw [nb_get _ _ hj, one_get _ _ hi, one_get _ _ hi, one_get _ _ hi, one_get _ _ hi]
    simp only [Bool.or_eq_true, Bool.and_eq_true, decide_eq_true_eq, ne_eq, decide_not, Bool.not_eq_true', decide_eq_false_iff_not]
    omega
  rw [nb_get _ _ hj]
  simp only [Bool.or_eq_true, Bool.and_eq_true, decide_eq_true_eq]
  constructor
  · rintro (((⟨h1, h2⟩ | ⟨h1, h2⟩) | h2) | ⟨h1, h2⟩)
    · exact ⟨j + 1, get_lt h2, h2, (key _ (get_lt h2)).2 (.inl ⟨h1, rfl⟩)⟩
    · exact ⟨j - 1, get_lt h2, h2, (key _ (get_lt h2)).2 (.inr (.inl ⟨h1, rfl⟩))⟩
    · exact ⟨j + 8, get_lt h2, h2, (key _ (get_lt h2)).2 (.inr (.inr (.inl rfl)))⟩
    · exact ⟨j - 8, get_lt h2, h2, (key _ (get_lt h2)).2 (.inr (.inr (.inr ⟨h1, rfl⟩)))⟩
  · rintro ⟨i, hi, hs, ha⟩
    rcases (key i hi).1 ha with ⟨h1, rfl⟩ | ⟨h1, rfl⟩ | rfl | ⟨h1, rfl⟩
    · exact .inl (.inl (.inl ⟨h1, hs⟩))
    · exact .inl (.inl (.inr ⟨h1, hs⟩))
    · exact .inl (.inr hs)
    · exact .inr ⟨h1, hs⟩
theorem all2 {p : Nat → Nat → Bool} (h : (List.range 64).all (fun i => (List.range 64).all fun j => p i j) = true) (i j : Nat) (hi : i < 64) (hj : j < 64) : p i j = true :=
  List.all_eq_true.1 (List.all_eq_true.1 h i (List.mem_range.2 hi)) j (List.mem_range.2 hj)
theorem adj_symm (i j : Nat) (hi : i < 64) (hj : j < 64) : adjB i j = adjB j i := by
  have := all2 (p := fun i j => adjB i j == adjB j i) (by decide +kernel) i j hi hj
  simpa using this
theorem adj_col (i j : Nat) (hi : i < 64) (hj : j < 64) (h : adjB i j = true) : isBl i = !isBl j := by
  have := all2 (p := fun i j => !adjB i j || (isBl i == !isBl j)) (by decide +kernel) i j hi hj
  simpa [h] using this
theorem bl_get (i : Nat) (hi : i < 64) : blackB.getLsbD i = isBl i := by
  rw [black_get i hi]; unfold isBl
  rw [Bool.eq_iff_iff]; simp
/-- The mate of a cell in the list. -/
def mt (mate : List B) (i : Nat) : Option Nat := if mate.getD i 0 = 0 then none else some (tz (mate.getD i 0))
/-- All that is in the list are single cells. -/
def Ones (mate : List B) : Prop := mate.length = 64 ∧ ∀ x ∈ mate, x = 0 ∨ ∃ i, i < 64 ∧ x = one i
theorem Ones.get {mate : List B} (h : Ones mate) (i : Nat) : mate.getD i 0 = 0 ∨ ∃ k, k < 64 ∧ mate.getD i 0 = one k := by
  by_cases hi : i < mate.length
  · have : mate.getD i 0 = mate[i] := by simp [List.getD, hi]
    rw [this]
    exact h.2 _ (List.getElem_mem hi)
  · left; simp [List.getD, List.getElem?_eq_none (show mate.length ≤ i by omega)]
theorem Ones.set {mate : List B} (h : Ones mate) (k j : Nat) (hj : j < 64) : Ones (mate.set k (one j)) := by
  refine ⟨by simp [h.1], fun x hx => ?_⟩
  rcases List.mem_or_eq_of_mem_set hx with h1 | rfl
  · exact h.2 x h1
  · exact .inr ⟨j, hj, rfl⟩
def muP (mate : List B) : Pt := fun x => if isBl x then none else mt mate x
def nuP (mate : List B) : Pt := fun x => if isBl x then mt mate x else none
theorem mt_set {mate : List B} (h : Ones mate) {k j : Nat} (hk : k < 64) (hj : j < 64) : mt (mate.set k (one j)) = up (mt mate) k j := by
  funext x
  unfold mt up
  have hl := h.1
  by_cases e : x = k
  · subst e
    have e1 : (mate.set x (one j)).getD x 0 = one j := by simp [List.getD, hl, hk]
    rw [e1, if_neg (one_ne j hj), tz_one j hj]; simp
  · have e1 : (mate.set k (one j)).getD x 0 = mate.getD x 0 := by
      simp [List.getD, List.getElem?_set, Ne.symm e]
    rw [e1, if_neg e]
theorem muP_set {mate : List B} (h : Ones mate) {w c : Nat} (hw : w < 64) (hc : c < 64) (bw : isBl w = false) (bc : isBl c = true) : muP ((mate.set w (one c)).set c (one w)) = up (muP mate) w c := by
  funext x
  have e : mt ((mate.set w (one c)).set c (one w)) x = (if x = c then some w else if x = w then some c else mt mate x) := by
    rw [mt_set (h.set w c hc) hc hw, mt_set h hw hc]; rfl
  show (if isBl x = true then none else mt _ x) = (if x = w then some c else if isBl x = true then none else mt mate x)
  rw [e]
  by_cases hx : isBl x = true
  · have : x ≠ w := fun e => by rw [e, bw] at hx; simp at hx
    rw [if_pos hx, if_neg this, if_pos hx]
  · have : x ≠ c := fun e => hx (e ▸ bc)
    rw [if_neg hx, if_neg this, if_neg hx]
theorem nuP_set {mate : List B} (h : Ones mate) {w c : Nat} (hw : w < 64) (hc : c < 64) (bw : isBl w = false) (bc : isBl c = true) : nuP ((mate.set w (one c)).set c (one w)) = up (nuP mate) c w := by
  funext x
  have e : mt ((mate.set w (one c)).set c (one w)) x = (if x = c then some w else if x = w then some c else mt mate x) := by
    rw [mt_set (h.set w c hc) hc hw, mt_set h hw hc]; rfl
  show (if isBl x = true then mt _ x else none) = (if x = c then some w else if isBl x = true then mt mate x else none)
  rw [e]
  by_cases hx : isBl x = true
  · have : x ≠ w := fun e => by rw [e, bw] at hx; simp at hx
    rw [if_pos hx, if_pos hx, if_neg this]
  · have : x ≠ c := fun e => hx (e ▸ bc)
    rw [if_neg hx, if_neg this, if_neg hx]
/-- The graph: black cells of s and their neighbours in s. -/
def NS (s : B) : Nat → Nat → Prop := fun c w => c < 64 ∧ s.getLsbD w = true ∧ adjB c w = true ∧ isBl c = true
def seenP (seen : B) : Kuhn.St := fun w => seen.getLsbD w = true
theorem seenP_add (seen : B) (w : Nat) (hw : w < 64) : seenP (seen ||| one w) = add (seenP seen) w := by
  funext x
  unfold seenP add
  rw [or_get, one_get _ _ hw, Bool.or_eq_true, decide_eq_true_eq]
theorem dfs_run {s : B} : ∀ (n : Nat) (c : Nat) (mate : List B) (seen : B) (r : Bool) (mate' : List B) (seen' : B), dfs n s (one c) mate seen = some (r, mate', seen') → c < 64 → isBl c = true → Ones mate →
    (∀ w, isBl w = false → ∀ b, mt mate w = some b → isBl b = true ∧ b < 64) →
    Kuhn.Run (NS s) (muP mate) (nuP mate) (seenP seen) c r (muP mate') (nuP mate') (seenP seen') ∧ Ones mate' ∧ ∀ w, isBl w = false → ∀ b, mt mate' w = some b → isBl b = true ∧ b < 64
  | 0, c, mate, seen, r, mate', seen', hd, hc, bc, ho, hm => by simp [dfs] at hd
  | n + 1, c, mate, seen, r, mate', seen', hd, hc, bc, ho, hm => by
    unfold dfs at hd
    generalize hw : low ((nbB (one c) &&& s) &&& ~~~seen) = w at hd
    by_cases hw0 : w = 0
    · rw [if_pos hw0] at hd
      simp only [Option.some.injEq, Prod.mk.injEq] at hd
      obtain ⟨rfl, rfl, rfl⟩ := hd
      refine ⟨.fail fun x hx => ?_, ho, hm⟩
      obtain ⟨_, hsx, ha, _⟩ := hx
      have hz : (nbB (one c) &&& s) &&& ~~~seen = 0 := by
        by_cases h0 : (nbB (one c) &&& s) &&& ~~~seen = 0
        · exact h0
        · obtain ⟨i, hi, _, _, e⟩ := low_one h0
          rw [hw, hw0] at e
          exact absurd e.symm (one_ne i hi)
      have hx := congrArg (fun b : B => b.getLsbD x) hz
      simp only [sub_get, and_get, zero_get] at hx
      unfold adjB at ha
      rw [ha, hsx] at hx
      have hx64 : x < 64 := get_lt hsx
      simpa [seenP, hx64] using hx
    · rw [if_neg hw0] at hd
      have h0 : (nbB (one c) &&& s) &&& ~~~seen ≠ 0 := fun e => hw0 (by rw [← hw, e]; exact low_zero)
      obtain ⟨i, hi, hg, _, e⟩ := low_one h0
      rw [hw] at e
      subst e
      rw [sub_get, and_get, Bool.and_eq_true, Bool.and_eq_true] at hg
      obtain ⟨⟨ha, hsi⟩, hsn⟩ := hg
      have hN : NS s c i := ⟨hc, hsi, ha, bc⟩
      have hS : ¬ seenP seen i := by unfold seenP; simpa using hsn
      have bi : isBl i = false := by
        have := adj_col c i hc hi ha
        rw [bc] at this; simpa using this.symm
      rw [tz_one i hi] at hd
      have fin : ∀ (mt1 : List B), Ones mt1 → (∀ w, isBl w = false → ∀ b, mt mt1 w = some b → isBl b = true ∧ b < 64) → Ones ((mt1.set i (one c)).set (tz (one c)) (one i)) ∧ (∀ w, isBl w = false → ∀ b, mt ((mt1.set i (one c)).set (tz (one c)) (one i)) w = some b → isBl b = true ∧ b < 64) ∧ muP ((mt1.set i (one c)).set (tz (one c)) (one i)) = up (muP mt1) i c ∧ nuP ((mt1.set i (one c)).set (tz (one c)) (one i)) = up (nuP mt1) c i := by
        intro mt1 ho1 hm1
        rw [tz_one c hc]
        refine ⟨(ho1.set i c hc).set c i hi, fun w hwb b hb => ?_, muP_set ho1 hi hc bi bc, nuP_set ho1 hi hc bi bc⟩
        rw [mt_set (ho1.set i c hc) hc hi, mt_set ho1 hi hc] at hb
        unfold up at hb
        have hwc : w ≠ c := fun e => by rw [e, bc] at hwb; simp at hwb
        rw [if_neg hwc] at hb
        split at hb
        · cases hb; exact ⟨bc, hc⟩
        · exact hm1 w hwb b hb
      have hmu : ∀ k, isBl k = false → muP mate k = mt mate k := fun k hk => by unfold muP; rw [hk]; rfl
      by_cases hr0 : mate.getD i 0 = 0
      · rw [if_pos hr0] at hd
        simp only [Option.some.injEq, Prod.mk.injEq] at hd
        obtain ⟨rfl, rfl, rfl⟩ := hd
        obtain ⟨f1, f2, f3, f4⟩ := fin mate ho hm
        refine ⟨?_, f1, f2⟩
        rw [f3, f4, seenP_add _ _ hi]
        exact .free hN hS (by rw [hmu i bi]; unfold mt; rw [if_pos hr0])
      · rw [if_neg hr0] at hd
        obtain ⟨k, hk, ek⟩ := (ho.get i).resolve_left hr0
        have hmk : mt mate i = some k := by unfold mt; rw [if_neg hr0, ek, tz_one k hk]
        obtain ⟨bk, _⟩ := hm i bi k hmk
        rw [ek] at hd
        split at hd
        · simp at hd
        · rename_i m1 s1 e1
          simp only [Option.some.injEq, Prod.mk.injEq] at hd
          obtain ⟨rfl, rfl, rfl⟩ := hd
          obtain ⟨q1, q2, q3⟩ := dfs_run n k mate _ _ _ _ e1 hk bk ho hm
          rw [seenP_add _ _ hi] at q1
          obtain ⟨f1, f2, f3, f4⟩ := fin m1 q2 q3
          refine ⟨?_, f1, f2⟩
          rw [f3, f4]
          exact .take hN hS (by rw [hmu i bi]; exact hmk) q1
        · rename_i m1 s1 e1
          obtain ⟨q1, q2, q3⟩ := dfs_run n k mate _ _ _ _ e1 hk bk ho hm
          rw [seenP_add _ _ hi] at q1
          obtain ⟨r1, r2, r3⟩ := dfs_run n c m1 s1 r mate' seen' hd hc bc q2 q3
          exact ⟨.skip hN hS (by rw [hmu i bi]; exact hmk) q1 r1, r2, r3⟩
end Go.AM
namespace Go.AM
open Go Go.Proofs
open Go.AM.Kuhn hiding Run St
/-- The numbers of a set's cells, in order. -/
def bitsL (s : B) : List Nat := (List.range 64).filter fun i => s.getLsbD i
theorem sing_fuel : ∀ (d i : Nat) (s : B), i + d = 64 → (∀ j, j < i → s.getLsbD j = false) → sing (d + 1) s = sing d s
  | 0, i, s, h, hs => by
    have : s = 0 := B_zero fun j hj => hs j (by omega)
    unfold sing
    rw [if_pos this]
  | d + 1, i, s, h, hs => by
    by_cases h0 : s = 0
    · unfold sing
      rw [if_pos h0, if_pos h0]
    · have e : ∀ d, sing (d + 1) s = low s :: sing d (s &&& ~~~low s) := fun d => by
        show (if s = 0 then [] else low s :: sing d (s &&& ~~~low s)) = _
        rw [if_neg h0]
      rw [e, e]
      obtain ⟨l, hl64, hsl, hlow, e2⟩ := low_one h0
      rw [sing_fuel d (i + 1) _ (by omega) fun j hj => ?_]
      have hil : i ≤ l := by
        rcases Nat.lt_or_ge l i with h | h
        · rw [hs l h] at hsl; simp at hsl
        · exact h
      rw [sub_get, e2, one_get _ _ hl64]
      by_cases h : j = l
      · simp [h]
      · rw [hlow j (by omega)]; simp
theorem sing_bits : ∀ (d i : Nat) (s : B), i + d = 64 → (∀ j, j < i → s.getLsbD j = false) → sing d s = ((List.range' i d).filter fun j => s.getLsbD j).map one
  | 0, i, s, h, hs => rfl
  | d + 1, i, s, h, hs => by
    rw [List.range'_succ, List.filter_cons]
    cases hi : s.getLsbD i with
    | false =>
      have hs' : ∀ j, j < i + 1 → s.getLsbD j = false := fun j hj => by
        by_cases e : j = i
        · rw [e]; exact hi
        · exact hs j (by omega)
      rw [sing_fuel d (i + 1) s (by omega) hs', sing_bits d (i + 1) s (by omega) hs']
      simp
    | true =>
      have hlow := low_of hi hs
      have h0 : s ≠ 0 := ne_of_get hi
      have e : sing (d + 1) s = low s :: sing d (s &&& ~~~low s) := by
        show (if s = 0 then [] else low s :: sing d (s &&& ~~~low s)) = _
        rw [if_neg h0]
      have hs' : ∀ j, j < i + 1 → (s &&& ~~~low s).getLsbD j = false := fun j hj => by
        rw [sub_get, hlow, one_get _ _ (by omega)]
        by_cases e : j = i
        · simp [e]
        · rw [hs j (by omega)]; simp
      rw [e, sing_bits d (i + 1) _ (by omega) hs', hlow]
      simp only [if_true, List.map_cons]
      congr 2
      apply List.filter_congr
      intro j hj
      rw [List.mem_range'_1] at hj
      rw [sub_get, one_get _ _ (by omega)]
      have : j ≠ i := by omega
      simp [this]
theorem sing_eq (s : B) : sing 64 s = (bitsL s).map one := by
  rw [sing_bits 64 0 s (by omega) (fun j hj => by omega)]
  unfold bitsL
  rw [List.range_eq_range']
theorem bitsL_nodup (s : B) : (bitsL s).Nodup := List.Pairwise.filter _ List.nodup_range
theorem bitsL_mem (s : B) (i : Nat) : i ∈ bitsL s ↔ s.getLsbD i = true := by
  unfold bitsL
  rw [List.mem_filter, List.mem_range]
  exact ⟨fun h => h.2, fun h => ⟨get_lt h, h⟩⟩
def HM (mate : List B) : Prop := ∀ w, isBl w = false → ∀ b, mt mate w = some b → isBl b = true ∧ b < 64
theorem pairL_inv (s : B) : ∀ (cs : List Nat) (mate : List B) (D : Kuhn.St) (done : Nat → Prop), Ones mate → HM mate → Kuhn.Inv (NS s) (muP mate) (nuP mate) D done → cs.Nodup → (∀ c ∈ cs, c < 64 ∧ isBl c = true ∧ ¬ done c) →
    ∃ D', Kuhn.Inv (NS s) (muP (pairL s (cs.map one) mate)) (nuP (pairL s (cs.map one) mate)) D' (fun x => done x ∨ x ∈ cs) ∧ Ones (pairL s (cs.map one) mate) ∧ HM (pairL s (cs.map one) mate)
  | [], mate, D, done, ho, hm, hi, _, _ => by
    refine ⟨D, ?_, ho, hm⟩
    have : (fun x => done x ∨ x ∈ ([] : List Nat)) = done := by funext x; simp
    rw [this]; exact hi
  | c :: cs, mate, D, done, ho, hm, hi, hn, hc => by
    obtain ⟨hc64, bc, hcd⟩ := hc c (List.mem_cons_self ..)
    obtain ⟨r, m', s', hd⟩ := dfs65 s (one c) mate
    obtain ⟨q1, q2, q3⟩ := dfs_run 65 c mate 0 r m' s' hd hc64 bc ho hm
    have e0 : seenP 0 = fun _ => False := by funext x; unfold seenP; rw [zero_get]; simp
    rw [e0] at q1
    obtain ⟨D', hi'⟩ := hi.next hcd q1
    rw [List.nodup_cons] at hn
    obtain ⟨D2, h1, h2, h3⟩ := pairL_inv s cs m' D' (fun x => done x ∨ x = c) q2 q3 hi' hn.2 (fun x hx => by
      obtain ⟨a, b, d⟩ := hc x (List.mem_cons_of_mem _ hx)
      refine ⟨a, b, fun h => ?_⟩
      rcases h with h | h
      · exact d h
      · subst h; exact hn.1 hx)
    have e : pairL s ((c :: cs).map one) mate = pairL s (cs.map one) m' := by
      show (match dfs 65 s (one c) mate 0 with | some (_, m', _) => pairL s (cs.map one) m' | none => mate) = _
      rw [hd]
    rw [e]
    refine ⟨D2, ?_, h2, h3⟩
    have : (fun x => (done x ∨ x = c) ∨ x ∈ cs) = fun x => done x ∨ x ∈ c :: cs := by
      funext x
      simp only [List.mem_cons, or_assoc]
    rw [← this]; exact h1
/-- What pair leaves. -/
theorem pair_inv (s : B) : ∃ D, Kuhn.Inv (NS s) (muP (pairB s)) (nuP (pairB s)) D (fun x => s.getLsbD x = true ∧ isBl x = true) ∧ Ones (pairB s) ∧ HM (pairB s) := by
  unfold pairB
  rw [sing_eq]
  have hz : ∀ i, mt (List.replicate 64 (0 : B)) i = none := fun i => by
    unfold mt
    have : (List.replicate 64 (0 : B)).getD i 0 = 0 := by
      simp only [List.getD_eq_getElem?_getD, List.getElem?_replicate]
      split <;> rfl
    rw [if_pos this]
  have hmu : muP (List.replicate 64 (0 : B)) = fun _ => none := by funext x; unfold muP; rw [hz]; simp
  have hnu : nuP (List.replicate 64 (0 : B)) = fun _ => none := by funext x; unfold nuP; rw [hz]; simp
  obtain ⟨D, h1, h2, h3⟩ := pairL_inv s (bitsL (s &&& blackB)) (List.replicate 64 0) (fun _ => False) (fun _ => False)
    ⟨by simp, fun x hx => .inl (List.eq_of_mem_replicate hx)⟩ (fun w _ b hb => by rw [hz] at hb; simp at hb)
    (by rw [hmu, hnu]; exact ⟨⟨fun w w' b h => by simp at h, fun b w => by simp, fun w b h => by simp at h⟩, fun w h => h.elim, fun b h => h.elim, fun b h => by simp at h⟩)
    (bitsL_nodup _) (fun c hc => by
      rw [bitsL_mem, and_get, Bool.and_eq_true] at hc
      have hc64 := get_lt hc.1
      exact ⟨hc64, by rw [← bl_get c hc64]; exact hc.2, fun h => h⟩)
  refine ⟨D, ?_, h2, h3⟩
  have : (fun x => False ∨ x ∈ bitsL (s &&& blackB)) = fun x => s.getLsbD x = true ∧ isBl x = true := by
    funext x
    rw [bitsL_mem, and_get, Bool.and_eq_true]
    apply propext
    constructor
    · rintro (h | ⟨h1, h2⟩)
      · exact h.elim
      · exact ⟨h1, by rw [← bl_get x (get_lt h1)]; exact h2⟩
    · rintro ⟨h1, h2⟩
      exact .inr ⟨h1, by rw [bl_get x (get_lt h1)]; exact h2⟩
  rw [← this]; exact h1
theorem aloneL_get (mate : List B) : ∀ (l : List Nat) (lone : B) (j : Nat), (∀ i ∈ l, i < 64) → ((aloneL mate (l.map one) lone).getLsbD j = true ↔ lone.getLsbD j = true ∨ (j ∈ l ∧ mate.getD j 0 = 0))
  | [], lone, j, _ => by simp [aloneL]
  | i :: l, lone, j, h => by
    have hi := h i (List.mem_cons_self ..)
    show (aloneL mate (l.map one) (if mate.getD (tz (one i)) 0 = 0 then lone ||| one i else lone)).getLsbD j = true ↔ _
    rw [aloneL_get mate l _ j (fun x hx => h x (List.mem_cons_of_mem _ hx)), tz_one i hi]
    by_cases h0 : mate.getD i 0 = 0
    · rw [if_pos h0, or_get, one_get _ _ hi, Bool.or_eq_true, decide_eq_true_eq, List.mem_cons]
      constructor
      · rintro ((h1 | rfl) | ⟨h1, h2⟩)
        · exact .inl h1
        · exact .inr ⟨.inl rfl, h0⟩
        · exact .inr ⟨.inr h1, h2⟩
      · rintro (h1 | ⟨rfl | h1, h2⟩)
        · exact .inl (.inl h1)
        · exact .inl (.inr rfl)
        · exact .inr ⟨h1, h2⟩
    · rw [if_neg h0, List.mem_cons]
      constructor
      · rintro (h1 | ⟨h1, h2⟩)
        · exact .inl h1
        · exact .inr ⟨.inr h1, h2⟩
      · rintro (h1 | ⟨rfl | h1, h2⟩)
        · exact .inl h1
        · exact absurd h2 h0
        · exact .inr ⟨h1, h2⟩
theorem aloneB_get (s : B) (mate : List B) (j : Nat) : (aloneB s mate).getLsbD j = true ↔ s.getLsbD j = true ∧ mt mate j = none := by
  unfold aloneB
  rw [sing_eq, aloneL_get mate (bitsL s) 0 j (fun i hi => get_lt ((bitsL_mem s i).1 hi)), zero_get, bitsL_mem]
  unfold mt
  by_cases h : mate.getD j 0 = 0
  · simp [h]
  · rw [if_neg h]
    constructor
    · rintro (h1 | ⟨_, h2⟩)
      · simp at h1
      · exact absurd h2 h
    · rintro ⟨_, h2⟩
      simp at h2
theorem canB_iff (s : B) : canB s = true ↔ ∀ i, s.getLsbD i = true → mt (pairB s) i ≠ none := by
  unfold canB
  rw [decide_eq_true_eq]
  constructor
  · intro h i hi hn
    have := (aloneB_get s (pairB s) i).2 ⟨hi, hn⟩
    rw [h, zero_get] at this
    simp at this
  · intro h
    refine B_zero fun i _ => ?_
    cases e : (aloneB s (pairB s)).getLsbD i with
    | false => rfl
    | true =>
      obtain ⟨h1, h2⟩ := (aloneB_get s (pairB s) i).1 e
      exact absurd h2 (h i h1)
/-- A perfect matching. -/
def PM (s : B) (f : Pt) : Prop := ∀ i, s.getLsbD i = true → ∃ j, f i = some j ∧ s.getLsbD j = true ∧ adjB i j = true ∧ f j = some i
theorem pm_of_can {s : B} (h : canB s = true) : PM s (mt (pairB s)) := by
  rw [canB_iff] at h
  obtain ⟨D, hI, ho, hm⟩ := pair_inv s
  intro i hi
  have hi64 := get_lt hi
  cases e : mt (pairB s) i with
  | none => exact absurd e (h i hi)
  | some j =>
    refine ⟨j, rfl, ?_⟩
    by_cases hb : isBl i = true
    · have hnu : nuP (pairB s) i = some j := by unfold nuP; rw [if_pos hb]; exact e
      have hmu := (hI.ok.cons i j).1 hnu
      obtain ⟨_, hsj, ha, _⟩ := hI.ok.edge j i hmu
      refine ⟨hsj, ha, ?_⟩
      unfold muP at hmu
      split at hmu
      · simp at hmu
      · exact hmu
    · have hmu : muP (pairB s) i = some j := by unfold muP; rw [if_neg hb]; exact e
      have hnu := (hI.ok.cons j i).2 hmu
      obtain ⟨hj64, _, ha, bj⟩ := hI.ok.edge i j hmu
      have hd := hI.only j (by rw [hnu]; simp)
      refine ⟨hd.1, by rw [adj_symm i j hi64 hj64]; exact ha, ?_⟩
      unfold nuP at hnu
      rw [if_pos bj] at hnu
      exact hnu
/-- Pigeons. -/
theorem nodup_len : ∀ {l l' : List Nat}, l.Nodup → (∀ x ∈ l, x ∈ l') → l.length ≤ l'.length
  | [], l', _, _ => Nat.zero_le _
  | x :: l, l', hn, h => by
    rw [List.nodup_cons] at hn
    have hx := h x (List.mem_cons_self ..)
    have := nodup_len (l := l) (l' := l'.erase x) hn.2 fun y hy => by
      have : y ≠ x := fun e => hn.1 (e ▸ hy)
      exact (List.mem_erase_of_ne this).2 (h y (List.mem_cons_of_mem _ hy))
    have h2 := List.length_erase_of_mem hx
    have h3 := List.length_pos_of_mem hx
    simp only [List.length_cons]
    omega
theorem map_nodup {φ : Nat → Nat} : ∀ {l : List Nat}, l.Nodup → (∀ x ∈ l, ∀ y ∈ l, φ x = φ y → x = y) → (l.map φ).Nodup
  | [], _, _ => by simp
  | x :: l, hn, h => by
    rw [List.nodup_cons] at hn
    rw [List.map_cons, List.nodup_cons]
    refine ⟨fun hm => ?_, map_nodup hn.2 fun a ha b hb => h a (List.mem_cons_of_mem _ ha) b (List.mem_cons_of_mem _ hb)⟩
    obtain ⟨y, hy, e⟩ := List.mem_map.1 hm
    have := h x (List.mem_cons_self ..) y (List.mem_cons_of_mem _ hy) e.symm
    exact hn.1 (this ▸ hy)
open Classical in
theorem pig (X : Nat → Prop) (φ : Nat → Nat) (hX : ∀ x, X x → x < 64) (hφ : ∀ x, X x → X (φ x)) (inj : ∀ x, X x → ∀ y, X y → φ x = φ y → x = y) (c : Nat) (hc : X c) : ∃ x, X x ∧ φ x = c := by
  refine Classical.byContradiction fun hn => ?_
  have hmem : ∀ x, x ∈ (List.range 64).filter (fun x => decide (X x)) ↔ X x := fun x => by
    rw [List.mem_filter, List.mem_range, decide_eq_true_eq]
    exact ⟨fun h => h.2, fun h => ⟨hX x h, h⟩⟩
  have hnd : ((List.range 64).filter fun x => decide (X x)).Nodup := List.Pairwise.filter _ List.nodup_range
  generalize (List.range 64).filter (fun x => decide (X x)) = l at hmem hnd
  have h1 := map_nodup (φ := φ) hnd fun x hx y hy => inj x ((hmem x).1 hx) y ((hmem y).1 hy)
  have h2 := nodup_len (l := l.map φ) (l' := l.erase c) h1 fun y hy => by
    obtain ⟨x, hx, rfl⟩ := List.mem_map.1 hy
    have hx' := (hmem x).1 hx
    have : φ x ≠ c := fun e => hn ⟨x, hx', e⟩
    exact (List.mem_erase_of_ne this).2 ((hmem _).2 (hφ x hx'))
  have h3 := List.length_erase_of_mem ((hmem c).2 hc)
  have h4 := List.length_pos_of_mem ((hmem c).2 hc)
  simp at h2
  omega
end Go.AM
namespace Go.AM
open Go Go.Proofs
open Go.AM.Kuhn hiding Run St
theorem can_of_pm {s : B} {f : Pt} (hf : PM s f) : canB s = true := by
  rw [canB_iff]
  obtain ⟨D, hI, ho, hm⟩ := pair_inv s
  -- every black cell has a mate
  have hbl : ∀ c, s.getLsbD c = true → isBl c = true → nuP (pairB s) c ≠ none := by
    intro c hsc hbc hn
    have hcD := (hI.each c ⟨hsc, hbc⟩).resolve_left (fun h => h hn)
    have hout : ∀ b, (b = c ∨ ∃ w, D w ∧ muP (pairB s) w = some b) → ∃ j b', f b = some j ∧ f j = some b ∧ D j ∧ muP (pairB s) j = some b' ∧ b' < 64 := by
      intro b hb
      have hsb : s.getLsbD b = true ∧ isBl b = true := by
        rcases hb with rfl | ⟨w, _, hw⟩
        · exact ⟨hsc, hbc⟩
        · exact hI.only b (by rw [(hI.ok.cons b w).2 hw]; simp)
      obtain ⟨j, h1, h2, h3, h4⟩ := hf b hsb.1
      have hN : NS s b j := ⟨get_lt hsb.1, h2, h3, hsb.2⟩
      have hDj : D j := by
        rcases hb with rfl | ⟨w, hw, hw2⟩
        · exact hcD j hN
        · obtain ⟨b2, h5, h6⟩ := hI.closed w hw
          rw [hw2] at h5
          cases h5
          exact h6 j hN
      obtain ⟨b', h5, _⟩ := hI.closed j hDj
      exact ⟨j, b', h1, h4, hDj, h5, (hI.ok.edge j b' h5).1⟩
    obtain ⟨b, hb, he⟩ := pig (fun b => b < 64 ∧ (b = c ∨ ∃ w, D w ∧ muP (pairB s) w = some b)) (fun b => match f b with | some j => (muP (pairB s) j).getD 0 | none => 0) (fun x hx => hx.1)
      (fun b hb => by
        obtain ⟨j, b', h1, _, h3, h4, h5⟩ := hout b hb.2
        simp only [h1, h4, Option.getD_some]
        exact ⟨h5, .inr ⟨j, h3, h4⟩⟩)
      (fun b hb b2 hb2 he => by
        obtain ⟨j, b', h1, h2, h3, h4, h5⟩ := hout b hb.2
        obtain ⟨j2, b2', g1, g2, g3, g4, g5⟩ := hout b2 hb2.2
        simp only [h1, h4, g1, g4, Option.getD_some] at he
        subst he
        have := hI.ok.inj j j2 b' h4 g4
        subst this
        rw [h2] at g2
        exact Option.some.inj g2) c ⟨get_lt hsc, .inl rfl⟩
    obtain ⟨j, b', h1, _, _, h4, _⟩ := hout b hb.2
    simp only [h1, h4, Option.getD_some] at he
    subst he
    rw [(hI.ok.cons b' j).2 h4] at hn
    simp at hn
  intro i hi hn
  have hi64 := get_lt hi
  by_cases hb : isBl i = true
  · have := hbl i hi hb
    unfold nuP at this
    rw [if_pos hb] at this
    exact this hn
  · have hmi : muP (pairB s) i = none := by unfold muP; rw [if_neg hb]; exact hn
    have hout : ∀ x, x < 64 ∧ s.getLsbD x = true ∧ isBl x = false → ∃ b w, f x = some b ∧ f b = some x ∧ nuP (pairB s) b = some w ∧ muP (pairB s) w = some b ∧ w < 64 ∧ s.getLsbD w = true ∧ isBl w = false := by
      intro x ⟨hx, hsx, hbx⟩
      obtain ⟨b, h1, h2, h3, h4⟩ := hf x hsx
      have hb64 := get_lt h2
      have hbb : isBl b = true := by
        have := adj_col x b hx hb64 h3
        rw [hbx] at this
        simpa using this.symm
      cases e : nuP (pairB s) b with
      | none => exact absurd e (hbl b h2 hbb)
      | some w =>
        have hmw := (hI.ok.cons b w).1 e
        obtain ⟨_, hsw, ha, _⟩ := hI.ok.edge w b hmw
        have hw64 := get_lt hsw
        have hbw : isBl w = false := by
          have := adj_col b w hb64 hw64 ha
          rw [hbb] at this
          simpa using this.symm
        exact ⟨b, w, h1, h4, e, hmw, hw64, hsw, hbw⟩
    obtain ⟨x, hx, he⟩ := pig (fun x => x < 64 ∧ s.getLsbD x = true ∧ isBl x = false) (fun x => match f x with | some b => (nuP (pairB s) b).getD 0 | none => 0) (fun x hx => hx.1)
      (fun x hx => by
        obtain ⟨b, w, h1, _, h3, _, h5⟩ := hout x hx
        simp only [h1, h3, Option.getD_some]
        exact h5)
      (fun x hx y hy he => by
        obtain ⟨b, w, h1, h2, h3, h4, _⟩ := hout x hx
        obtain ⟨b2, w2, g1, g2, g3, g4, _⟩ := hout y hy
        simp only [h1, h3, g1, g3, Option.getD_some] at he
        subst he
        rw [h4] at g4
        cases g4
        rw [h2] at g2
        exact Option.some.inj g2) i ⟨hi64, hi, by simpa using hb⟩
    obtain ⟨b, w, h1, _, h3, h4, _⟩ := hout x hx
    simp only [h1, h3, Option.getD_some] at he
    subst he
    rw [h4] at hmi
    simp at hmi
theorem adjB_iff (i j : Nat) (hi : i < 64) (hj : j < 64) : adjB i j = true ↔ (j % 8 ≠ 7 ∧ i = j + 1) ∨ (j % 8 ≠ 0 ∧ i = j - 1) ∨ i = j + 8 ∨ (8 ≤ j ∧ i = j - 8) := by
  unfold adjB
  rw [nb_get _ _ hj, one_get _ _ hi, one_get _ _ hi, one_get _ _ hi, one_get _ _ hi]
  simp only [Bool.or_eq_true, Bool.and_eq_true, decide_eq_true_eq, ne_eq, decide_not, Bool.not_eq_true', decide_eq_false_iff_not]
  omega
theorem right_one (l : Nat) (h : l < 64) : rightB (one l) = if l % 8 = 7 then 0 else one (l + 1) := by
  have := all64 (p := fun l => rightB (one l) == if l % 8 = 7 then 0 else one (l + 1)) (by decide +kernel) l h
  simpa using this
theorem below_one (l : Nat) (h : l < 64) : belowB (one l) = if 56 ≤ l then 0 else one (l + 8) := by
  have := all64 (p := fun l => belowB (one l) == if 56 ≤ l then 0 else one (l + 8)) (by decide +kernel) l h
  simpa using this
/-- What is left when two cells are taken. -/
def less2 (s : B) (l j : Nat) : B := s &&& ~~~(one l ||| one j)
theorem less2_get (s : B) (l j i : Nat) (hl : l < 64) (hj : j < 64) : (less2 s l j).getLsbD i = true ↔ s.getLsbD i = true ∧ i ≠ l ∧ i ≠ j := by
  unfold less2
  rw [sub_get, or_get, one_get _ _ hl, one_get _ _ hj]
  simp
theorem less2_unc {s : B} {l j : Nat} (hl : l < 64) (hj : j < 64) (h : s.getLsbD l = true) : unc s < unc (less2 s l j) := by
  refine unc_lt (fun i hi => ((less2_get s l j i hl hj).1 hi).1) hl ?_ h
  cases e : (less2 s l j).getLsbD l with
  | false => rfl
  | true => exact absurd rfl ((less2_get s l j l hl hj).1 e).2.1
theorem and_one {s : B} {j : Nat} (hj : j < 64) : s &&& one j ≠ 0 ↔ s.getLsbD j = true := by
  constructor
  · intro h
    obtain ⟨i, hi, hg⟩ := B_ne h
    rw [and_get, one_get _ _ hj, Bool.and_eq_true, decide_eq_true_eq] at hg
    rw [← hg.2]; exact hg.1
  · intro h
    refine ne_of_get (i := j) ?_
    rw [and_get, one_get _ _ hj, h]; simp
/-- The tilings of a set, by the domino at its first cell. -/
theorem NT_first {s : B} {l : Nat} (hsl : s.getLsbD l = true) (hlow : ∀ j, j < l → s.getLsbD j = false) :
    NT s = (if l % 8 ≠ 7 ∧ s.getLsbD (l + 1) = true then NT (less2 s l (l + 1)) else 0) + (if l < 56 ∧ s.getLsbD (l + 8) = true then NT (less2 s l (l + 8)) else 0) := by
  have hl := get_lt hsl
  rw [NT_rec (ne_of_get hsl), low_of hsl hlow, right_one l hl, below_one l hl]
  congr 1
  · by_cases h : l % 8 = 7
    · rw [if_pos h, if_neg (by simp), if_neg (fun x => x.1 h)]
    · rw [if_neg h]
      have hj : l + 1 < 64 := by omega
      by_cases h2 : s.getLsbD (l + 1) = true
      · rw [if_pos ((and_one hj).2 h2), if_pos ⟨h, h2⟩]; rfl
      · rw [if_neg (fun x => h2 ((and_one hj).1 x)), if_neg (fun x => h2 x.2)]
  · by_cases h : 56 ≤ l
    · rw [if_pos h, if_neg (by simp), if_neg (fun x => by omega)]
    · rw [if_neg h]
      have hj : l + 8 < 64 := by omega
      by_cases h2 : s.getLsbD (l + 8) = true
      · rw [if_pos ((and_one hj).2 h2), if_pos ⟨by omega, h2⟩]; rfl
      · rw [if_neg (fun x => h2 ((and_one hj).1 x)), if_neg (fun x => h2 x.2)]
theorem adj_next {l j : Nat} (hl : l < 64) (hj : j < 64) (hlt : l < j) : adjB l j = true ↔ (l % 8 ≠ 7 ∧ j = l + 1) ∨ (l < 56 ∧ j = l + 8) := by
  rw [adjB_iff l j hl hj]; omega
theorem pm_less {s : B} {f : Pt} (h : PM s f) {l j : Nat} (hl : s.getLsbD l = true) (hj : s.getLsbD j = true) (h1 : f l = some j) (h2 : f j = some l) : PM (less2 s l j) f := by
  have hl64 := get_lt hl
  have hj64 := get_lt hj
  intro i hi
  rw [less2_get s l j i hl64 hj64] at hi
  obtain ⟨k, a, b, c, d⟩ := h i hi.1
  refine ⟨k, a, (less2_get s l j k hl64 hj64).2 ⟨b, fun e => ?_, fun e => ?_⟩, c, d⟩
  · subst e; rw [h1] at d; exact hi.2.2 (Option.some.inj d).symm
  · subst e; rw [h2] at d; exact hi.2.1 (Option.some.inj d).symm
theorem nt_of_pm : ∀ (n : Nat) (s : B) (f : Pt), 64 - unc s ≤ n → PM s f → 0 < NT s
  | n, s, f, hn, h => by
    by_cases h0 : s = 0
    · rw [h0, NT_zero]; omega
    · obtain ⟨l, hl, hsl, hlow, _⟩ := low_one h0
      obtain ⟨j, h1, h2, h3, h4⟩ := h l hsl
      have hj := get_lt h2
      have hlt : l < j := by
        rcases Nat.lt_trichotomy l j with h5 | h5 | h5
        · exact h5
        · subst h5
          have := adj_col l l hl hl h3
          cases isBl l <;> simp at this
        · rw [hlow j h5] at h2; simp at h2
      have hu := less2_unc (s := s) hl hj hsl
      have hle := unc_le (less2 s l j)
      obtain ⟨n', rfl⟩ : ∃ n', n = n' + 1 := ⟨n - 1, by omega⟩
      have ih := nt_of_pm n' (less2 s l j) f (by omega) (pm_less h hsl h2 h1 h4)
      rw [NT_first hsl hlow]
      rcases (adj_next hl hj hlt).1 h3 with ⟨h5, rfl⟩ | ⟨h5, rfl⟩
      · rw [if_pos ⟨h5, h2⟩]; omega
      · rw [if_pos (c := l < 56 ∧ _) ⟨h5, h2⟩]; omega
theorem pm_more {s : B} {f : Pt} {l j : Nat} (hl : s.getLsbD l = true) (hj : s.getLsbD j = true) (hlj : l ≠ j) (ha : adjB l j = true) (h : PM (less2 s l j) f) : PM s (up (up f l j) j l) := by
  have hl64 := get_lt hl
  have hj64 := get_lt hj
  intro i hi
  by_cases e1 : i = j
  · subst e1
    exact ⟨l, up_self _ _ _, hl, by rw [adj_symm i l hj64 hl64]; exact ha, by rw [up_ne hlj, up_self]⟩
  · by_cases e2 : i = l
    · subst e2
      exact ⟨j, by rw [up_ne hlj, up_self], hj, ha, up_self _ _ _⟩
    · obtain ⟨k, a, b, c, d⟩ := h i ((less2_get s l j i hl64 hj64).2 ⟨hi, e2, e1⟩)
      obtain ⟨b1, b2, b3⟩ := (less2_get s l j k hl64 hj64).1 b
      exact ⟨k, by rw [up_ne e1, up_ne e2]; exact a, b1, c, by rw [up_ne b3, up_ne b2]; exact d⟩
theorem pm_of_nt : ∀ (n : Nat) (s : B), 64 - unc s ≤ n → 0 < NT s → ∃ f, PM s f
  | n, s, hn, h => by
    by_cases h0 : s = 0
    · exact ⟨fun _ => none, fun i hi => by rw [h0, zero_get] at hi; simp at hi⟩
    · obtain ⟨l, hl, hsl, hlow, _⟩ := low_one h0
      rw [NT_first hsl hlow] at h
      have key : ∀ j, s.getLsbD j = true → l < j → adjB l j = true → 0 < NT (less2 s l j) → ∃ f, PM s f := by
        intro j hsj hlt ha hp
        have hj := get_lt hsj
        have hu := less2_unc (s := s) hl hj hsl
        have hle := unc_le (less2 s l j)
        obtain ⟨n', rfl⟩ : ∃ n', n = n' + 1 := ⟨n - 1, by omega⟩
        obtain ⟨f, hf⟩ := pm_of_nt n' (less2 s l j) (by omega) hp
        exact ⟨_, pm_more hsl hsj (by omega) ha hf⟩
      by_cases hA : l % 8 ≠ 7 ∧ s.getLsbD (l + 1) = true
      · rw [if_pos hA] at h
        by_cases hp : 0 < NT (less2 s l (l + 1))
        · exact key (l + 1) hA.2 (by omega) ((adj_next hl (by omega) (by omega)).2 (.inl ⟨hA.1, rfl⟩)) hp
        · by_cases hB : l < 56 ∧ s.getLsbD (l + 8) = true
          · rw [if_pos (c := l < 56 ∧ _) hB] at h
            exact key (l + 8) hB.2 (by omega) ((adj_next hl (by omega) (by omega)).2 (.inr ⟨hB.1, rfl⟩)) (by omega)
          · rw [if_neg (c := l < 56 ∧ _) hB] at h; omega
      · rw [if_neg hA] at h
        by_cases hB : l < 56 ∧ s.getLsbD (l + 8) = true
        · rw [if_pos (c := l < 56 ∧ _) hB] at h
          exact key (l + 8) hB.2 (by omega) ((adj_next hl (by omega) (by omega)).2 (.inr ⟨hB.1, rfl⟩)) (by omega)
        · rw [if_neg (c := l < 56 ∧ _) hB] at h; omega
theorem canB_nt (s : B) : canB s = true ↔ 0 < NT s := by
  constructor
  · intro h; exact nt_of_pm 64 s _ (by omega) (pm_of_can h)
  · intro h
    obtain ⟨f, hf⟩ := pm_of_nt 64 s (by omega) h
    exact can_of_pm hf
end Go.AM
namespace Go.AM
open Go Go.Proofs
def cellB (x y : Int) : B := if 0 ≤ x ∧ x < 8 ∧ 0 ≤ y ∧ y < 8 then one (y * 8 + x).toNat else 0
theorem i_lss (a b : Int) : mbin E .lss 3 (vi a) (vi b) = some (.bool (decide (a < b))) := rfl
theorem i_geq (a b : Int) : mbin E .geq 3 (vi a) (vi b) = some (.bool (decide (b ≤ a))) := rfl
theorem i_gtr (a b : Int) : mbin E .gtr 3 (vi a) (vi b) = some (.bool (decide (b < a))) := rfl
theorem b_shli (a : B) (n : Int) (h0 : 0 ≤ n) (h : n ≤ 64) : mbin E .shl 58 (vb a) (vi n) = some (vb (a <<< n.toNat)) := by
  have e : mbin E .shl 58 (vb a) (vi n) = if n < 0 then none else some (.int .u64 (IntKind.u64.wrap ((a.toNat : Int) * 2 ^ (min n.toNat 64)))) := rfl
  rw [e, if_neg (by omega), wrap_u64]
  have h1 : min n.toNat 64 = n.toNat := by omega
  rw [h1]
  unfold vb
  congr 2
  rw [BitVec.toNat_shiftLeft, Nat.shiftLeft_eq, Int.natCast_emod, Int.natCast_mul, Int.natCast_pow]
  rfl
theorem t69 (n base : Nat) (x y : Int) (m : M) : rt (n + 1) base 69 [vi x, vi y] m = some (.ret (vb (cellB x y)), m) :=
  rt_pure (f := 69) (rf := rf69) (by kernel_rfl) (by kernel_rfl) (by kernel_rfl) n base _ m m _ (by
    show r69 (rt n) n m.length (vi x) (vi y) m = _
    unfold r69
    rw [k1_fun, fVal_fun, show (.int .i64 0 : Value) = vi 0 from rfl, show (.int .i64 8 : Value) = vi 8 from rfl, show (.int .u64 0 : Value) = vb 0 from rfl, show (.int .u64 1 : Value) = vb 1 from rfl]
    simp only [i_lss, i_geq, k1n]
    unfold cellB
    by_cases h1 : x < 0
    · rw [decide_eq_true h1, if_neg (by omega)]; rfl
    by_cases h2 : 8 ≤ x
    · rw [decide_eq_false h1, decide_eq_true h2, if_neg (by omega)]; rfl
    by_cases h3 : y < 0
    · rw [decide_eq_false h1, decide_eq_false h2, decide_eq_true h3, if_neg (by omega)]; rfl
    by_cases h4 : 8 ≤ y
    · rw [decide_eq_false h1, decide_eq_false h2, decide_eq_false h3, decide_eq_true h4, if_neg (by omega)]; rfl
    rw [decide_eq_false h1, decide_eq_false h2, decide_eq_false h3, decide_eq_false h4, if_pos (by omega)]
    have e1 : mbin E .mul 3 (vi y) (vi 8) = some (vi (wr (y * 8))) := rfl
    have e2 : mbin E .add 3 (vi (y * 8)) (vi x) = some (vi (wr (y * 8 + x))) := rfl
    rw [e1, wr_id (by omega) (by omega)]
    simp only [kb]
    rw [e2, wr_id (by omega) (by omega)]
    simp only
    rw [b_shli 1 _ (by omega) (by omega)]
    rfl) rfl
abbrev Dom := Int × Int × Bool
def dV (d : Dom) : List Value := [vi d.1, vi d.2.1, .bool d.2.2]
def dsV (l : List Dom) : List Value := l.flatMap dV
theorem ld31 {m : M} {p off : Nat} {a b c : Value} {row : Row} (h : m[p]? = some row) (h3 : (row.cells.drop off).take 3 = [a, b, c]) (hl : off + 3 ≤ row.cells.length) : xload E.P m 31 (pt p off) = some (.agg #[a, b, c]) := by
  have e : xload E.P m 31 (pt p off) = (xread m p off 3).map fun cs => .agg cs.toArray := by kernel_rfl
  rw [e, xread_eq]
  unfold mread
  rw [h]
  simp only
  rw [if_pos hl, h3]
  rfl
theorem al31 (m : M) : xalloc E.P m 31 = some (pt m.length 0, m ++ [cellR [vi 0, vi 0, .bool false]]) := by
  have e1 : xalloc E.P m 31 = xlen m fun n => xpush m (cellR [vi 0, vi 0, .bool false]) fun m' => some (pt n 0, m') := by kernel_rfl
  rw [e1, xlen_eq, fNat_eq, xpush_eq, fList_eq]
theorem st31 (base : Nat) (m : M) (hb : base ≤ m.length) (z : List Value) (hz : z.length = 3) (d : Dom) : xstore E.P base (m ++ [cellR z]) 31 (pt m.length 0) (.agg #[vi d.1, vi d.2.1, .bool d.2.2]) = some (m ++ [cellR (dV d)]) := by
  have e3 : ∀ m1 r, xstore E.P base m1 31 (pt r 0) (.agg #[vi d.1, vi d.2.1, .bool d.2.2]) = xwrite base m1 r 0 [vi d.1, vi d.2.1, .bool d.2.2] := fun m1 r => by kernel_rfl
  rw [e3, xwrite_eq]
  unfold mwrite
  rw [if_neg (by omega)]
  match z, hz with
  | [x, y, w], _ => simp [cellR, splice, Value.oneCell', vi, dV, fList_eq]
theorem ld3c (m : M) (r off : Nat) : xload E.P m 3 (pt r off) = mcell m r off := by
  have e : xload E.P m 3 (pt r off) = xcell m r off := by kernel_rfl
  rw [e, xcell_eq]
theorem ld4c (m : M) (r off : Nat) : xload E.P m 4 (pt r off) = mcell m r off := by
  have e : xload E.P m 4 (pt r off) = xcell m r off := by kernel_rfl
  rw [e, xcell_eq]
end Go.AM
namespace Go.AM
open Go Go.Proofs
def Mk (c : Nat) : Nat → Nat
  | 0 => 0
  | n + 1 => c + 256 * Mk c n
def g1 (a : Nat) : Nat := (a / 2 &&& 0x55) + (a &&& 0x55)
def g2 (a : Nat) : Nat := (a / 4 &&& 0x33) + (a &&& 0x33)
def g3 (a : Nat) : Nat := (a / 16 + a) &&& 0x0f
def f1 (n x : Nat) : Nat := (x / 2 &&& Mk 0x55 n) + (x &&& Mk 0x55 n)
def f2 (n x : Nat) : Nat := (x / 4 &&& Mk 0x33 n) + (x &&& Mk 0x33 n)
def f3 (n x : Nat) : Nat := (x / 16 + x) &&& Mk 0x0f n
def cntN : Nat → Nat → Nat
  | 0, _ => 0
  | n + 1, x => x % 2 + cntN n (x / 2)
theorem cntN_filter : ∀ (n x : Nat), ((List.range n).filter fun i => x.testBit i).length = cntN n x
  | 0, _ => rfl
  | n + 1, x => by
    rw [List.range_succ_eq_map, List.filter_cons, List.filter_map]
    have e : ((fun i => x.testBit i) ∘ Nat.succ) = fun i => (x / 2).testBit i := by
      funext i
      exact Nat.testBit_succ x i
    rw [e]
    show _ = x % 2 + cntN n (x / 2)
    rw [← cntN_filter n (x / 2)]
    by_cases h : x.testBit 0 = true
    · rw [if_pos h, List.length_cons, List.length_map]
      have : x % 2 = 1 := by simpa [Nat.testBit_zero] using h
      omega
    · rw [if_neg h, List.length_map]
      have : x % 2 = 0 := by
        have : ¬ (x % 2 = 1) := by simpa [Nat.testBit_zero] using h
        omega
      omega
/-- The number of cells. -/
def pc (s : B) : Nat := cntN 64 s.toNat
theorem pc_len (s : B) : pc s = ((List.range 64).filter fun i => s.getLsbD i).length := (cntN_filter 64 s.toNat).symm
end Go.AM
namespace Go.AM
open Go Go.Proofs
abbrev Cel := Int × Int
def cV (d : Cel) : List Value := [vi d.1, vi d.2]
def csV (l : List Cel) : List Value := l.flatMap cV
theorem ix36 (p l c j : Nat) (h : j < l) : mindexAddr E.P 36 (.slice (some ⟨p, 0, none⟩) l c) (vi j) = some (pt p (j * 2)) := by
  have e : mindexAddr E.P 36 (.slice (some ⟨p, 0, none⟩) l c) (vi j) = if 0 ≤ (j : Int) ∧ (j : Int) < l then some (.pointer (some ⟨p, 0 + ((j : Int)).toNat * 2, none⟩)) else none := by kernel_rfl
  rw [e, if_pos (by omega)]
  simp
theorem len36 (base : Nat) (m : M) (o l c : Nat) : vcalln E.P base m .len [36] [.slice (some ⟨o, 0, none⟩) l c] = some (vi l, m) := by kernel_rfl
theorem len36n (base : Nat) (m : M) : vcalln E.P base m .len [36] [nilS] = some (vi 0, m) := by kernel_rfl
theorem take2 (f : Cel → List Value) (hf : ∀ d, (f d).length = 2) : ∀ (l : List Cel) (j : Nat) (h : j < l.length), ((l.flatMap f).drop (j * 2)).take 2 = f l[j] ∧ j * 2 + 2 ≤ (l.flatMap f).length
  | [], j, h => by simp at h
  | d :: l, 0, _ => by
    rw [List.flatMap_cons]
    refine ⟨?_, by simp [hf]⟩
    show List.take 2 (List.drop (0 * 2) (f d ++ l.flatMap f)) = f d
    rw [Nat.zero_mul, List.drop_zero, List.take_append_of_le_length (by rw [hf]; exact Nat.le_refl _), List.take_of_length_le (by rw [hf]; exact Nat.le_refl _)]
  | d :: l, j + 1, h => by
    obtain ⟨h1, h2⟩ := take2 f hf l j (by simpa using h)
    rw [List.flatMap_cons]
    refine ⟨?_, by rw [List.length_append, hf]; omega⟩
    rw [show (j + 1) * 2 = (f d).length + j * 2 by rw [hf]; omega, List.drop_append, List.drop_of_length_le (by omega), List.nil_append]
    simpa using h1
theorem ld68 {m : M} {p off : Nat} {a b : Value} {row : Row} (h : m[p]? = some row) (h3 : (row.cells.drop off).take 2 = [a, b]) (hl : off + 2 ≤ row.cells.length) : xload E.P m 68 (pt p off) = some (.agg #[a, b]) := by
  have e : xload E.P m 68 (pt p off) = (xread m p off 2).map fun cs => .agg cs.toArray := by kernel_rfl
  rw [e, xread_eq]
  unfold mread
  rw [h]
  simp only
  rw [if_pos hl, h3]
  rfl
theorem al68 (m : M) : xalloc E.P m 68 = some (pt m.length 0, m ++ [cellR [vi 0, vi 0]]) := by
  have e1 : xalloc E.P m 68 = xlen m fun n => xpush m (cellR [vi 0, vi 0]) fun m' => some (pt n 0, m') := by kernel_rfl
  rw [e1, xlen_eq, fNat_eq, xpush_eq, fList_eq]
theorem st68 (base : Nat) (m : M) (hb : base ≤ m.length) (z : List Value) (hz : z.length = 2) (d : Cel) : xstore E.P base (m ++ [cellR z]) 68 (pt m.length 0) (.agg #[vi d.1, vi d.2]) = some (m ++ [cellR (cV d)]) := by
  have e3 : ∀ m1 r, xstore E.P base m1 68 (pt r 0) (.agg #[vi d.1, vi d.2]) = xwrite base m1 r 0 [vi d.1, vi d.2] := fun m1 r => by kernel_rfl
  rw [e3, xwrite_eq]
  unfold mwrite
  rw [if_neg (by omega)]
  match z, hz with
  | [x, y], _ => simp [cellR, splice, Value.oneCell', vi, cV, fList_eq]
end Go.AM
namespace Go.AM
open Go Go.Proofs
def orM (mate : List B) : List B → B → B
  | [], a => a
  | c :: cs, a => orM mate cs (a ||| mate.getD (tz c) 0)
def stepR (s : B) (mate : List B) (r : B) : B := orM mate (sing 64 (nbB r &&& s)) r
inductive Reach (s : B) (mate : List B) : B → B → Prop
  | refl (r : B) : Reach s mate r r
  | step {r R : B} (h : Reach s mate (stepR s mate r) R) : Reach s mate r R
end Go.AM
namespace Go.AM
open Go Go.Proofs
open Go.AM.Kuhn hiding Run St
theorem pc_bits (s : B) : pc s = (bitsL s).length := pc_len s
end Go.AM
namespace Go.AM
open Go Go.Proofs
def rowL (bs : ByteArray) (y : Nat) : Nat → Nat → B → B → Option (B × B)
  | 0, _, c, g => some (c, g)
  | k + 1, x, c, g => match bs[x]? with
    | none => none
    | some b => if b.toNat = 35 then rowL bs y k (x + 1) (c ||| cellB x y) g else if b.toNat = 46 then rowL bs y k (x + 1) c (g ||| cellB x y) else none
def rowsL (w : Nat) : List ByteArray → Nat → B → B → Option (B × B)
  | [], _, c, g => some (c, g)
  | bs :: l, y, c, g => if bs.size = w then (match rowL bs y w 0 c g with
      | none => none
      | some (c', g') => rowsL w l (y + 1) c' g') else none
abbrev mg (m0 : M) (z : List Value) (w h : Nat) (c g : B) : M := m0 ++ [cellR z, cellR [vi w, vi h, vb c, vb g]]
def reg0 : List Value := [vi 0, vi 0, vb 0, vb 0]
theorem len9 (base : Nat) (m : M) (s : ByteArray) : vcalln E.P base m .len [9] [.string s] = some (vi s.size, m) := by kernel_rfl
theorem idx9 (s : ByteArray) (j : Nat) : mindex E.P 9 (.string s) (vi j) = (s[j]?).map fun b => .int .u8 (b.toNat : Int) := by
  have e : mindex E.P 9 (.string s) (vi j) = if 0 ≤ (j : Int) then (s[(j : Int).toNat]?).map fun b => .int .u8 (b.toNat : Int) else none := by kernel_rfl
  rw [e, if_pos (by omega)]
  rfl
theorem eql5 (a : Nat) (b : Int) : mbin E .eql 5 (.int .u8 (a : Int)) (.int .u8 b) = some (.bool (decide ((a : Int) = b))) := by
  have e : mbin E .eql 5 (.int .u8 (a : Int)) (.int .u8 b) = some (.bool ((a : Int) == b)) := rfl
  rw [e]
  congr 2
theorem neq3 (a b : Nat) : mbin E .neq 3 (vi a) (vi b) = some (.bool (decide (a ≠ b))) := by
  have e : mbin E .neq 3 (vi a) (vi b) = some (.bool ((a : Int) != (b : Int))) := rfl
  rw [e]
  congr 2
  rw [Bool.eq_iff_iff]
  simp
  omega
theorem fa60 (p : Nat) : mfieldAddr E.P 60 (pt p 0) 0 = some (pt p 0) ∧ mfieldAddr E.P 60 (pt p 0) 2 = some (pt p 2) ∧ mfieldAddr E.P 60 (pt p 0) 3 = some (pt p 3) := by
  refine ⟨?_, ?_, ?_⟩ <;> kernel_rfl
theorem al60 (m : M) : xalloc E.P m 60 = some (pt m.length 0, m ++ [cellR reg0]) := by
  have e1 : xalloc E.P m 60 = xlen m fun n => xpush m (cellR reg0) fun m' => some (pt n 0, m') := by kernel_rfl
  rw [e1, xlen_eq, fNat_eq, xpush_eq, fList_eq]
theorem b60e : mbuild E.P 60 [] = some (.agg reg0.toArray) := by kernel_rfl
theorem b60 (w h : Int) : mbuild E.P 60 [(0, vi w), (1, vi h)] = some (.agg #[vi w, vi h, vb 0, vb 0]) := by kernel_rfl
theorem ld22c (m : M) (r off : Nat) : xload E.P m 9 (pt r off) = mcell m r off := by
  have e : xload E.P m 9 (pt r off) = xcell m r off := by kernel_rfl
  rw [e, xcell_eq]
theorem ix22 (p l c j : Nat) (h : j < l) : mindexAddr E.P 22 (.slice (some ⟨p, 0, none⟩) l c) (vi j) = some (pt p j) := by
  have e : mindexAddr E.P 22 (.slice (some ⟨p, 0, none⟩) l c) (vi j) = if 0 ≤ (j : Int) ∧ (j : Int) < l then some (.pointer (some ⟨p, 0 + ((j : Int)).toNat * 1, none⟩)) else none := by kernel_rfl
  rw [e, if_pos (by omega)]
  simp
theorem st60 (base : Nat) (m : M) (r : Nat) (hb : base ≤ r) (z z' : List Value) (hz : z.length = 4) (hz' : z'.length = 4) (ho : z'.all (·.oneCell') = true) (hr : m[r]? = some (cellR z)) : xstore E.P base m 60 (pt r 0) (.agg z'.toArray) = some (m.set r (cellR z')) := by
  have e3 : xstore E.P base m 60 (pt r 0) (.agg z'.toArray) = if z'.toArray.size = 4 then xwrite base m r 0 z'.toArray.toList else none := by kernel_rfl
  rw [e3, if_pos (by simpa using hz'), xwrite_eq]
  unfold mwrite
  rw [if_neg (by omega), hr, List.toList_toArray]
  have hle : 0 + z'.length ≤ (cellR z).cells.length := by show 0 + z'.length ≤ z.length; omega
  have hsp : splice (cellR z).cells 0 z' = z' := by
    unfold splice
    show List.take 0 z ++ z' ++ List.drop (0 + z'.length) z = z'
    rw [List.take_zero, List.nil_append, List.drop_eq_nil_of_le (by omega), List.append_nil]
  show (if (cellR z).ro = true then none else if 0 + z'.length ≤ (cellR z).cells.length then _ else none) = _
  rw [if_neg (by simp [cellR]), if_pos hle, if_pos ho, hsp, fList_eq, fList_eq]
  rfl
theorem st58f (base : Nat) (m : M) (r : Nat) (hb : base ≤ r) (k : Nat) (hk : k < 4) (z : List Value) (hz : z.length = 4) (x : B) (hr : m[r]? = some (cellR z)) : xstore E.P base m 58 (pt r k) (vb x) = some (m.set r (cellR (z.set k (vb x)))) := by
  rw [st58, mwrite_one hb hr rfl (by show k < z.length; omega) rfl]
  rfl
theorem r41_L0_s (call : CallF) (fuel base : Nat) (kr : Value → Value → M → Res2) (kx0 : Value → Value → M → Res2) (n : Nat) (x2 x4 x38 x39 x40 : Value) (m : M) : r41_L0 call fuel base kr kx0 (n + 1) x2 x4 x38 x39 x40 m =
    (k1n (mbin E .lss 3 x40 x39) fun v41_29 => (kb v41_29 (k1n (mindexAddr E.P 22 x38 x40) fun v43_30 => (k1n (xload E.P m 9 v43_30) fun v44_31 => (k2 (vcalln E.P base m .len [9] [v44_31]) fun v46_32 m => (k1n (mfieldAddr E.P 60 x4 0) fun v47_33 => (k1n (xload E.P m 3 v47_33) fun v48_34 => (k1n (mbin E .neq 3 v46_32 v48_34) fun v49_35 => (kb v49_35 (k1n (mbuild E.P 60 []) fun v50_36 => (ks (xstore E.P base m 60 x2 v50_36) fun m => (kr x2 (.bool false) m))) (k1n (mfieldAddr E.P 60 x4 0) fun v51_37 => (k1n (xload E.P m 3 v51_37) fun v52_38 => (r41_L2 call fuel base (fun y2_56 y3_57 m => (kr y2_56 y3_57 m)) (fun y2_58 y4_59 y38_60 y39_61 y40_62 m => (k1n (mbin E .add 3 y40_62 (.int .i64 1)) fun v79_63 => (r41_L0 call fuel base kr kx0 n y2_58 y4_59 y38_60 y39_61 v79_63 m))) fuel x2 x4 x40 v44_31 x38 x39 x40 v52_38 (.int .i64 0) m)))))))))) (kx0 x2 x4 m))) := by
  unfold r41_L0
  rw [k1_fun, vcall_fun]
theorem r41_L2_s (call : CallF) (fuel base : Nat) (kr : Value → Value → M → Res2) (kx2 : Value → Value → Value → Value → Value → M → Res2) (n : Nat) (x2 x4 x5 x6 x38 x39 x40 x52 x53 : Value) (m : M) : r41_L2 call fuel base kr kx2 (n + 1) x2 x4 x5 x6 x38 x39 x40 x52 x53 m =
    (k1n (mbin E .lss 3 x53 x52) fun v54_39 => (kb v54_39 (k1n (mindex E.P 9 x6 x53) fun v58_40 => (k1n (mbin E .eql 5 v58_40 (.int .u8 35)) fun v61_41 => (kb v61_41 (k1n (mfieldAddr E.P 60 x4 2) fun v62_42 => (k1n (xload E.P m 58 v62_42) fun v63_43 => (kc (kB m (call m.length 69 [x53, x5] m)) (fun v66_44 m => (k1n (mbin E .or 58 v63_43 v66_44) fun v67_45 => (k1n (mfieldAddr E.P 60 x4 2) fun v68_46 => (ks (xstore E.P base m 58 v68_46 v67_45) fun m => (k1n (mbin E .add 3 x53 (.int .i64 1)) fun v78_47 => (r41_L2 call fuel base kr kx2 n x2 x4 x5 x6 x38 x39 x40 x52 v78_47 m)))))) (fun _ _ => none)))) (k1n (mbin E .eql 5 v58_40 (.int .u8 46)) fun v70_48 => (kb v70_48 (k1n (mfieldAddr E.P 60 x4 3) fun v71_49 => (k1n (xload E.P m 58 v71_49) fun v72_50 => (kc (kB m (call m.length 69 [x53, x5] m)) (fun v75_51 m => (k1n (mbin E .or 58 v72_50 v75_51) fun v76_52 => (k1n (mfieldAddr E.P 60 x4 3) fun v77_53 => (ks (xstore E.P base m 58 v77_53 v76_52) fun m => (k1n (mbin E .add 3 x53 (.int .i64 1)) fun v78_54 => (r41_L2 call fuel base kr kx2 n x2 x4 x5 x6 x38 x39 x40 x52 v78_54 m)))))) (fun _ _ => none)))) (k1n (mbuild E.P 60 []) fun v59_55 => (ks (xstore E.P base m 60 x2 v59_55) fun m => (kr x2 (.bool false) m)))))))) (kx2 x2 x4 x38 x39 x40 m))) := by
  unfold r41_L2
  rw [k1_fun]
theorem mg_at (m0 : M) (z : List Value) (w h : Nat) (c g : B) : (mg m0 z w h c g)[m0.length + 1]? = some (cellR [vi w, vi h, vb c, vb g]) := by simp [mg]
theorem mg_z (m0 : M) (z : List Value) (w h : Nat) (c g : B) : (mg m0 z w h c g)[m0.length]? = some (cellR z) := by simp [mg]
theorem mg_lo (m0 : M) (z : List Value) (w h : Nat) (c g : B) {p : Nat} (hp : p < m0.length) : (mg m0 z w h c g)[p]? = m0[p]? := by simp [mg, List.getElem?_append_left hp]
theorem mg_set (m0 : M) (z : List Value) (w h : Nat) (c g : B) (w' h' : Nat) (c' g' : B) : (mg m0 z w h c g).set (m0.length + 1) (cellR [vi w', vi h', vb c', vb g']) = mg m0 z w' h' c' g' := by
  simp [mg, List.set_append]
theorem mg_setz (m0 : M) (z z' : List Value) (w h : Nat) (c g : B) : (mg m0 z w h c g).set m0.length (cellR z') = mg m0 z' w h c g := by
  simp [mg, List.set_append]
theorem loop41b (call : CallF) (hc : ∀ base x y m, call base 69 [vi x, vi y] m = some (.ret (vb (cellB x y)), m)) (fuel : Nat) (m0 : M) (kr : Value → Value → M → Res2) (kx : Value → Value → Value → Value → Value → M → Res2) (y : Nat) (bs : ByteArray) (w h : Nat) (hw : w ≤ 8) (hbs : bs.size = w) (z : List Value) (hz : z.length = 4) (x38 x39 x40 : Value) :
    ∀ (k n x : Nat) (c g : B), x + k = w → k < n →
      ∃ c2 g2, r41_L2 call fuel m0.length kr kx n (pt m0.length 0) (pt (m0.length + 1) 0) (vi y) (.string bs) x38 x39 x40 (vi w) (vi x) (mg m0 z w h c g) = match rowL bs y k x c g with
        | none => kr (pt m0.length 0) (.bool false) (mg m0 reg0 w h c2 g2)
        | some (c', g') => kx (pt m0.length 0) (pt (m0.length + 1) 0) x38 x39 x40 (mg m0 z w h c' g')
  | 0, n, x, c, g, hx, hn => by
    obtain ⟨n', rfl⟩ : ∃ n', n = n' + 1 := ⟨n - 1, by omega⟩
    rw [r41_L2_s]
    simp only [lss_nat, k1n]
    rw [decide_eq_false (by omega)]
    exact ⟨c, g, rfl⟩
  | k + 1, n, x, c, g, hx, hn => by
    obtain ⟨n', rfl⟩ : ∃ n', n = n' + 1 := ⟨n - 1, by omega⟩
    rw [r41_L2_s]
    simp only [lss_nat, k1n]
    rw [decide_eq_true (by omega : x < w)]
    simp only [kb]
    have hb : ∃ b, bs[x]? = some b := ⟨bs[x]'(by omega), by rw [getElem?_pos]⟩
    obtain ⟨b, hb⟩ := hb
    rw [idx9, hb]
    unfold rowL
    rw [hb]
    simp only [Option.map_some, eql5, (fa60 (m0.length + 1)).2.1, (fa60 (m0.length + 1)).2.2, ld58, hc, kB_same, kc]
    by_cases h1 : b.toNat = 35
    · rw [decide_eq_true (by omega : (b.toNat : Int) = 35), if_pos h1]
      simp only
      have e1 : mcell (mg m0 z w h c g) (m0.length + 1) 2 = some (vb c) := by unfold mcell; rw [mg_at]; rfl
      rw [e1]
      simp only [b_or]
      rw [st58f m0.length _ (m0.length + 1) (by omega) 2 (by omega) _ rfl _ (mg_at ..)]
      simp only [ks]
      rw [add1 x (by omega)]
      simp only
      have e2 : ([vi w, vi h, vb c, vb g] : List Value).set 2 (vb (c ||| cellB x y)) = [vi w, vi h, vb (c ||| cellB x y), vb g] := rfl
      rw [e2, mg_set]
      exact loop41b call hc fuel m0 kr kx y bs w h hw hbs z hz x38 x39 x40 k n' (x + 1) _ g (by omega) (by omega)
    · rw [decide_eq_false (by omega : ¬ (b.toNat : Int) = 35), if_neg h1]
      simp only
      by_cases h2 : b.toNat = 46
      · rw [decide_eq_true (by omega : (b.toNat : Int) = 46), if_pos h2]
        simp only
        have e1 : mcell (mg m0 z w h c g) (m0.length + 1) 3 = some (vb g) := by unfold mcell; rw [mg_at]; rfl
        rw [e1]
        simp only [b_or]
        rw [st58f m0.length _ (m0.length + 1) (by omega) 3 (by omega) _ rfl _ (mg_at ..)]
        simp only [ks]
        rw [add1 x (by omega)]
        simp only
        have e2 : ([vi w, vi h, vb c, vb g] : List Value).set 3 (vb (g ||| cellB x y)) = [vi w, vi h, vb c, vb (g ||| cellB x y)] := rfl
        rw [e2, mg_set]
        exact loop41b call hc fuel m0 kr kx y bs w h hw hbs z hz x38 x39 x40 k n' (x + 1) c _ (by omega) (by omega)
      · rw [decide_eq_false (by omega : ¬ (b.toNat : Int) = 46), if_neg h2]
        simp only [b60e]
        rw [st60 m0.length _ m0.length (Nat.le_refl _) z reg0 hz rfl rfl (mg_z ..)]
        simp only [ks]
        rw [mg_setz]
        exact ⟨c, g, rfl⟩
end Go.AM
namespace Go.AM
open Go Go.Proofs
/-- A slice of strings in memory. -/
def Strs (m : M) (v : Value) (l : List ByteArray) : Prop := (l = [] ∧ v = nilS) ∨ ∃ p row, v = sl p l.length ∧ m[p]? = some row ∧ row.cells = l.map Value.string
theorem strs_cell {m : M} {p : Nat} {row : Row} {l : List ByteArray} (h : m[p]? = some row) (hc : row.cells = l.map Value.string) {j : Nat} (hj : j < l.length) : mcell m p j = some (.string l[j]) := by
  unfold mcell
  rw [h]
  show row.cells[j]? = _
  rw [hc, List.getElem?_map, List.getElem?_eq_getElem hj]
  rfl
theorem loop41 (call : CallF) (hc : ∀ base x y m, call base 69 [vi x, vi y] m = some (.ret (vb (cellB x y)), m)) (fuel : Nat) (hf : 9 ≤ fuel) (m0 : M) (kr : Value → Value → M → Res2) (kx0 : Value → Value → M → Res2) {p N : Nat} {row : Row} {l : List ByteArray} (hp : m0[p]? = some row) (hrow : row.cells = l.map Value.string) (hl : l.length = N) (hN : N ≤ 8) (w h : Nat) (hw : w ≤ 8) (z : List Value) (hz : z.length = 4) :
    ∀ (n j : Nat) (c g : B), j ≤ N → N < n + j →
      ∃ c2 g2, r41_L0 call fuel m0.length kr kx0 n (pt m0.length 0) (pt (m0.length + 1) 0) (sl p N) (vi N) (vi j) (mg m0 z w h c g) = match rowsL w (l.drop j) j c g with
        | none => kr (pt m0.length 0) (.bool false) (mg m0 reg0 w h c2 g2)
        | some (c', g') => kx0 (pt m0.length 0) (pt (m0.length + 1) 0) (mg m0 z w h c' g')
  | 0, j, c, g, hj, hn => by omega
  | n + 1, j, c, g, hj, hn => by
    rw [r41_L0_s]
    simp only [lss_nat, k1n]
    by_cases hlt : j < N
    · rw [decide_eq_true hlt]
      simp only [kb]
      rw [ix22 p N N j hlt]
      simp only
      have hpl : p < m0.length := (List.getElem?_eq_some_iff.1 hp).1
      have hdrop : l.drop j = l[j]'(by omega) :: l.drop (j + 1) := List.drop_eq_getElem_cons (by omega)
      rw [ld22c, strs_cell (l := l) (by rw [mg_lo m0 z w h c g hpl]; exact hp) hrow (by omega), hdrop]
      generalize l[j]'(by omega) = bs
      simp only
      rw [len9]
      simp only [k2]
      rw [(fa60 (m0.length + 1)).1]
      simp only [ld3c]
      have e0 : mcell (mg m0 z w h c g) (m0.length + 1) 0 = some (vi w) := by unfold mcell; rw [mg_at]; rfl
      rw [e0]
      simp only [neq3]
      unfold rowsL
      by_cases hs : bs.size = w
      · rw [if_pos hs, decide_eq_false (fun h => h hs)]
        simp only
        rw [show (.int .i64 0 : Value) = vi ((0 : Nat) : Int) from rfl]
        obtain ⟨c2, g2, e⟩ := loop41b call hc fuel m0 (fun y2_56 y3_57 m => (kr y2_56 y3_57 m)) (fun y2_58 y4_59 y38_60 y39_61 y40_62 m => k1n (mbin E .add 3 y40_62 (.int .i64 1)) fun r => r41_L0 call fuel m0.length kr kx0 n y2_58 y4_59 y38_60 y39_61 r m) j bs w h hw hs z hz (sl p N) (vi N) (vi j) w fuel 0 c g (by omega) (by omega)
        simp only [k1n] at e
        cases hr : rowL bs j w 0 c g with
        | none =>
          rw [hr] at e
          exact ⟨c2, g2, e⟩
        | some cg =>
          obtain ⟨c', g'⟩ := cg
          rw [hr] at e
          simp only at e
          rw [e]
          simp only
          rw [add1 j (by omega)]
          exact loop41 call hc fuel hf m0 kr kx0 hp hrow hl hN w h hw z hz n (j + 1) c' g' (by omega) (by omega)
      · rw [if_neg hs, decide_eq_true hs]
        simp only [b60e]
        rw [st60 m0.length _ m0.length (Nat.le_refl _) z reg0 hz rfl rfl (mg_z ..)]
        simp only [ks]
        rw [mg_setz]
        exact ⟨c, g, rfl⟩
    · rw [decide_eq_false hlt, List.drop_eq_nil_of_le (by omega)]
      exact ⟨c, g, rfl⟩
/-- What read makes of a list of strings. -/
def readB (l : List ByteArray) : Option (Nat × Nat × B × B) := match l with
  | [] => none
  | b :: l' => if 8 < (b :: l').length then none else if b.size < 1 then none else if 8 < b.size then none else
    match rowsL b.size (b :: l') 0 0 0 with
    | none => none
    | some (c, g) => some (b.size, (b :: l').length, c, g)
def regV : Option (Nat × Nat × B × B) → Value
  | none => .tuple #[.agg reg0.toArray, .bool false]
  | some (w, h, c, g) => .tuple #[.agg #[vi w, vi h, vb c, vb g], .bool true]
theorem readB_cons (b : ByteArray) (l' : List ByteArray) : readB (b :: l') = if 8 < (b :: l').length then none else if b.size < 1 then none else if 8 < b.size then none else
    match rowsL b.size (b :: l') 0 0 0 with
    | none => none
    | some (c, g) => some (b.size, (b :: l').length, c, g) := rfl
theorem ld60 {m : M} {r : Nat} {a b c d : Value} (h : m[r]? = some (cellR [a, b, c, d])) : xload E.P m 60 (pt r 0) = some (.agg #[a, b, c, d]) := by
  have e : xload E.P m 60 (pt r 0) = (xread m r 0 4).map fun cs => .agg cs.toArray := by kernel_rfl
  rw [e, xread_eq]
  unfold mread
  rw [h]
  rfl
theorem ml60 {m : M} {r : Nat} {a b c d : Value} (h : m[r]? = some (cellR [a, b, c, d])) : mload E.P m 60 (pt r 0) = some (.agg #[a, b, c, d]) := by
  have e : mload E.P m 60 (pt r 0) = (mread m r 0 4).map fun cs => .agg cs.toArray := by kernel_rfl
  rw [e]
  unfold mread
  rw [h]
  rfl
theorem len22 (base : Nat) (m : M) (o l c : Nat) : vcalln E.P base m .len [22] [.slice (some ⟨o, 0, none⟩) l c] = some (vi l, m) := by kernel_rfl
theorem len22n (base : Nat) (m : M) : vcalln E.P base m .len [22] [nilS] = some (vi 0, m) := by kernel_rfl
theorem t41 (n base : Nat) (v : Value) (l : List ByteArray) (m0 : M) (hl0 : l.length ≤ 9223372036854775807) (hsz : ∀ b ∈ l, b.size ≤ 9223372036854775807) (hv : Strs m0 v l) : rt (n + 12) base 41 [v] m0 = some (.ret (regV (readB l)), m0) := by
  have hflat : ∀ o, vflat (regV o) = true := fun o => by
    cases o with
    | none => rfl
    | some x => rfl
  suffices h : ∃ m1, r41 (rt (n + 11)) (n + 11) m0.length v m0 = some (.ret (regV (readB l)), m1) by
    obtain ⟨m1, h⟩ := h
    exact rt_pure (f := 41) (rf := rf41) (by kernel_rfl) (by kernel_rfl) (by kernel_rfl) (n + 11) base _ m0 m1 _ h (hflat _)
  unfold r41
  rw [vcall_fun, k1_fun, show (.int .i64 1 : Value) = vi ((1 : Nat) : Int) from rfl, show (.int .i64 8 : Value) = vi ((8 : Nat) : Int) from rfl, show (.int .i64 0 : Value) = vi ((0 : Nat) : Int) from rfl]
  rw [al60]
  simp only [k2]
  have hz : (m0 ++ [cellR reg0])[m0.length]? = some (cellR reg0) := by simp
  have bad : (ks (xstore E.P m0.length (m0 ++ [cellR reg0]) 60 (pt m0.length 0) (.agg reg0.toArray)) fun m => (k0 (mload E.P m 60 (pt m0.length 0)) fun r_5 => (some (.ret (.tuple #[r_5, (.bool false)]), m)))) = some (.ret (regV none), m0 ++ [cellR reg0]) := by
    rw [st60 m0.length _ m0.length (Nat.le_refl _) reg0 reg0 rfl rfl rfl hz]
    simp only [ks]
    rw [show (m0 ++ [cellR reg0]).set m0.length (cellR reg0) = m0 ++ [cellR reg0] by simp [List.set_append]]
    rw [ml60 (a := vi 0) (b := vi 0) (c := vb 0) (d := vb 0) hz]
    rfl
  have bad' := bad
  simp only [ks, k0] at bad'
  have gtr_nat : ∀ i j : Nat, mbin E .gtr 3 (vi i) (vi j) = some (.bool (decide (j < i))) := fun i j => by
    rw [i_gtr, show decide ((j : Int) < (i : Int)) = decide (j < i) from decide_eq_decide.2 (by omega)]
  rcases hv with ⟨rfl, rfl⟩ | ⟨p, row, rfl, hr, hc⟩
  · rw [show readB [] = none from rfl, len22n]
    simp only
    rw [show (vi 0 : Value) = vi ((0 : Nat) : Int) from rfl, lss_nat]
    rw [decide_eq_true (by omega : 0 < 1)]
    simp only [k1n, kb, b60e]
    exact ⟨_, bad⟩
  · rw [len22]
    simp only [k1n, lss_nat]
    cases l with
    | nil =>
      rw [show readB [] = none from rfl]
      rw [decide_eq_true (by simp : ([] : List ByteArray).length < 1)]
      simp only [kb, b60e]
      exact ⟨_, bad⟩
    | cons b l' =>
      have hpl : p < m0.length := (List.getElem?_eq_some_iff.1 hr).1
      have hr1 : (m0 ++ [cellR reg0])[p]? = some row := by rw [List.getElem?_append_left hpl]; exact hr
      rw [decide_eq_false (by simp : ¬ (b :: l').length < 1)]
      simp only [kb]
      rw [len22]
      simp only [gtr_nat]
      rw [readB_cons]
      by_cases h1 : 8 < (b :: l').length
      · rw [decide_eq_true h1, if_pos h1]
        simp only [b60e]
        exact ⟨_, bad⟩
      · rw [decide_eq_false h1, if_neg h1]
        simp only
        rw [ix22 p _ _ 0 (by simp)]
        simp only
        rw [ld22c, strs_cell hr1 hc (j := 0) (by simp)]
        simp only [List.getElem_cons_zero, len9, lss_nat]
        by_cases h2 : b.size < 1
        · rw [decide_eq_true h2, if_pos h2]
          simp only [b60e]
          exact ⟨_, bad⟩
        · rw [decide_eq_false h2, if_neg h2]
          simp only
          rw [ld22c, strs_cell hr1 hc (j := 0) (by simp)]
          simp only [List.getElem_cons_zero, len9, gtr_nat]
          by_cases h3 : 8 < b.size
          · rw [decide_eq_true h3, if_pos h3]
            simp only [b60e]
            exact ⟨_, bad⟩
          · rw [decide_eq_false h3, if_neg h3]
            simp only
            rw [ld22c, strs_cell hr1 hc (j := 0) (by simp)]
            simp only [List.getElem_cons_zero, len9]
            rw [len22]
            simp only [b60, al60]
            have hlen : (m0 ++ [cellR reg0]).length = m0.length + 1 := by simp
            rw [hlen, st60 m0.length _ (m0.length + 1) (by omega) reg0 [vi b.size, vi (b :: l').length, vb 0, vb 0] rfl rfl rfl (by simp)]
            simp only [ks]
            rw [len22]
            simp only
            have hm : ((m0 ++ [cellR reg0]) ++ [cellR reg0]).set (m0.length + 1) (cellR [vi b.size, vi (b :: l').length, vb 0, vb 0]) = mg m0 reg0 b.size (b :: l').length 0 0 := by
              simp [mg, List.set_append]
            rw [hm]
            obtain ⟨c2, g2, e⟩ := loop41 (rt (n + 11)) (fun base x y m => t69 (n + 10) base x y m) (n + 11) (by omega) m0 (fun y2_64 y3_65 m => (k0 (mload E.P m 60 y2_64) fun r_66 => (some (.ret (.tuple #[r_66, y3_65]), m)))) (fun y2_67 y4_68 m => (k1n (xload E.P m 60 y4_68) fun v80_69 => (ks (xstore E.P m0.length m 60 y2_67 v80_69) fun m => (k0 (mload E.P m 60 y2_67) fun r_70 => (some (.ret (.tuple #[r_70, (.bool true)]), m)))))) hr hc rfl (by omega) b.size (b :: l').length (by omega) reg0 rfl (n + 11) 0 0 0 (by omega) (by omega)
            simp only [k1n, ks] at e
            rw [e, List.drop_zero]
            cases hcg : rowsL b.size (b :: l') 0 0 0 with
            | none =>
              simp only [k0]
              rw [ml60 (a := vi 0) (b := vi 0) (c := vb 0) (d := vb 0) (mg_z m0 reg0 b.size (b :: l').length c2 g2)]
              exact ⟨_, rfl⟩
            | some cg =>
              obtain ⟨c', g'⟩ := cg
              simp only
              rw [ld60 (mg_at ..)]
              simp only
              rw [st60 m0.length _ m0.length (Nat.le_refl _) reg0 [vi b.size, vi (b :: l').length, vb c', vb g'] rfl rfl rfl (mg_z ..)]
              simp only
              rw [mg_setz]
              simp only [k0]
              rw [ml60 (mg_z ..)]
              exact ⟨_, rfl⟩
end Go.AM
namespace Go.AM
open Go Go.Proofs
theorem r12_L0_s (call : CallF) (fuel base : Nat) (kr : Value → M → Res2) (kx0 : M → Res2) (n : Nat) (x0 x3 : Value) (m : M) : r12_L0 call fuel base kr kx0 (n + 1) x0 x3 m =
    (k2 (vcalln E.P base m .len [22] [x0]) fun v6_1 m => (k1n (mbin E .lss 3 x3 v6_1) fun v7_2 => (kb v7_2 (k1n (mbin E .geq 3 x3 (.int .i64 20)) fun v11_3 => (kb v11_3 (kr (.bool false) m) (k1n (mindexAddr E.P 22 x0 x3) fun v15_4 => (k1n (xload E.P m 9 v15_4) fun v16_5 => (k2 (vcalln E.P base m .len [9] [v16_5]) fun v17_6 m => (k1n (mbin E .gtr 3 v17_6 (.int .i64 20)) fun v18_7 => (kb v18_7 (kr (.bool false) m) (k1n (mbin E .add 3 x3 (.int .i64 1)) fun v9_8 => (r12_L0 call fuel base kr kx0 n x0 v9_8 m))))))))) (kx0 m)))) := by
  unfold r12_L0
  rw [k1_fun, vcall_fun]
theorem gtr_nat (i j : Nat) : mbin E .gtr 3 (vi i) (vi j) = some (.bool (decide (j < i))) := by
  rw [i_gtr, show decide ((j : Int) < (i : Int)) = decide (j < i) from decide_eq_decide.2 (by omega)]
theorem geq_nat (i j : Nat) : mbin E .geq 3 (vi i) (vi j) = some (.bool (decide (j ≤ i))) := by
  rw [i_geq, show decide ((j : Int) ≤ (i : Int)) = decide (j ≤ i) from decide_eq_decide.2 (by omega)]
theorem ex0 (a b : Value) : mextract 0 (.tuple #[a, b]) = some a := rfl
theorem ex1 (a b : Value) : mextract 1 (.tuple #[a, b]) = some b := rfl
theorem Strs.keeps {m m' : M} {v : Value} {l : List ByteArray} (h : Strs m v l) (hk : Keeps m.length m m') : Strs m' v l := by
  rcases h with h | ⟨p, row, h1, h2, h3⟩
  · exact .inl h
  · exact .inr ⟨p, row, h1, (hk.2 p (List.getElem?_eq_some_iff.1 h2).1).trans h2, h3⟩
/-- After the region is stored: the cells are read from it. -/
theorem regst (base : Nat) (m : M) (hb : base ≤ m.length) (w h : Nat) (c g : B) : xstore E.P base (m ++ [cellR reg0]) 60 (pt m.length 0) (.agg #[vi w, vi h, vb c, vb g]) = some (m ++ [cellR [vi w, vi h, vb c, vb g]]) := by
  rw [st60 base _ m.length hb reg0 [vi w, vi h, vb c, vb g] rfl rfl rfl (by simp)]
  simp [List.set_append]
theorem regst0 (base : Nat) (m : M) (hb : base ≤ m.length) : xstore E.P base (m ++ [cellR reg0]) 60 (pt m.length 0) (.agg reg0.toArray) = some (m ++ [cellR reg0]) := by
  rw [st60 base _ m.length hb reg0 reg0 rfl rfl rfl (by simp)]
  simp [List.set_append]
theorem regc (m : M) (w h : Nat) (c g : B) : mcell (m ++ [cellR [vi w, vi h, vb c, vb g]]) m.length 2 = some (vb c) := by
  unfold mcell
  simp [cellR]
end Go.AM
namespace Go.AM
open Go Go.Proofs
theorem e26 (a b : Int) : mbin E .eql 26 (vi a) (vi b) = some (.bool (decide (a = b))) := by
  have e : mbin E .eql 26 (vi a) (vi b) = some (.bool (a == b)) := by kernel_rfl
  rw [e]
  rfl
theorem n26 (a b : Int) : mbin E .neq 26 (vi a) (vi b) = some (.bool (decide (a ≠ b))) := by
  have e : mbin E .neq 26 (vi a) (vi b) = some (.bool (a != b)) := by kernel_rfl
  rw [e]
  congr 2
  rw [Bool.eq_iff_iff]
  simp
theorem e4 (a b : Bool) : mbin E .eql 4 (.bool a) (.bool b) = some (.bool (a == b)) := by
  cases a <;> cases b <;> kernel_rfl
end Go.AM
