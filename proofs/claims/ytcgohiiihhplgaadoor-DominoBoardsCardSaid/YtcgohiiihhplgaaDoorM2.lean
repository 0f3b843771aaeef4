import Derived.Carry
import Derived.Handy
import Derived.KernelRfl
import Derived.Laws.BytesArg
import Derived.Laws.StructEq
import Derived.Maps.AppendAt
import Derived.Maps.OwnOps
import Derived.Maps.RangeRun
import Derived.Maps.RangeWalk
import Derived.Test.YtcgohiiihhplgaaDoorRows
import Derived.WalkKit
import Derived.Test.YtcgohiiihhplgaaDoorAmB
import Derived.Test.YtcgohiiihhplgaaDoorAmModel
import Derived.Test.YtcgohiiihhplgaaDoorAmOps6
import Derived.Test.YtcgohiiihhplgaaDoorAmCode
import Derived.Test.YtcgohiiihhplgaaDoorAmK2
import Derived.Test.YtcgohiiihhplgaaDoorAmEq
import Derived.Test.YtcgohiiihhplgaaDoorRBase
import Derived.Test.YtcgohiiihhplgaaDoorB1
import Derived.Test.YtcgohiiihhplgaaDoorK1
import Derived.Test.YtcgohiiihhplgaaDoorR3
import Derived.Test.YtcgohiiihhplgaaDoorR41
import Derived.Test.YtcgohiiihhplgaaDoorR42
import Derived.Test.YtcgohiiihhplgaaDoorD3
import Derived.Test.YtcgohiiihhplgaaDoorK3
import Derived.Test.YtcgohiiihhplgaaDoorAmS
import Derived.Test.YtcgohiiihhplgaaDoorK4
import Derived.Test.YtcgohiiihhplgaaDoorK5
import Derived.Test.YtcgohiiihhplgaaDoorK6
import Derived.Test.YtcgohiiihhplgaaDoorS13
import Derived.Test.YtcgohiiihhplgaaDoorS14
import Derived.Test.YtcgohiiihhplgaaDoorD0
import Derived.Test.YtcgohiiihhplgaaDoorDet1
import Derived.Test.YtcgohiiihhplgaaDoorDH1
import Derived.Test.YtcgohiiihhplgaaDoorD4
import Derived.Test.YtcgohiiihhplgaaDoorM1
set_option linter.unusedVariables false
set_option linter.unusedSimpArgs false
set_option linter.unusedSectionVars false
namespace Go.AM
open Go Go.Proofs
open Go.AM.Kuhn hiding Run St
/-- Black cells: x + y is even. -/
def isBl (i : Nat) : Bool := (i / 8 + i % 8) % 2 == 0
def adjB (i j : Nat) : Bool := (nbB (one i)).getLsbD j
theorem nb_one (s : B) (j : Nat) (hj : j < 64) : (nbB s).getLsbD j = true ↔ ∃ i, i < 64 ∧ s.getLsbD i = true ∧ adjB i j = true := by
  have key : ∀ i, i < 64 → (adjB i j = true ↔ (j % 8 ≠ 7 ∧ i = j + 1) ∨ (j % 8 ≠ 0 ∧ i = j - 1) ∨ i = j + 8 ∨ (8 ≤ j ∧ i = j - 8)) := by
    intro i hi
    unfold adjB
    rw [nb_get _ _ hj, one_get _ _ hi, one_get _ _ hi, one_get _ _ hi, one_get _ _ hi]
    simp only [Bool.or_eq_true, Bool.and_eq_true, decide_eq_true_eq, ne_eq, decide_not, Bool.not_eq_true', decide_eq_false_iff_not]
    omega
  rw [nb_get _ _ hj]
  simp only [Bool.or_eq_true, Bool.and_eq_true, decide_eq_true_eq]
  constructor
  · rintro (((⟨h1, h2⟩ | ⟨h1, h2⟩) | h2) | ⟨h1, h2⟩)
    · exact ⟨j + 1, get_lt h2, h2, (key _ (get_lt h2)).2 (.inl ⟨h1, rfl⟩)⟩
    · exact ⟨j - 1, get_lt h2, h2, (key _ (get_lt h2)).2 (.inr (.inl ⟨h1, rfl⟩))⟩
    · exact ⟨j + 8, get_lt h2, h2, (key _ (get_lt h2)).2 (.inr (.inr (.inl rfl)))⟩
    · exact ⟨j - 8, get_lt h2, h2, (key _ (get_lt h2)).2 (.inr (.inr (.inr ⟨h1, rfl⟩)))⟩
  · rintro ⟨i, hi, hs, ha⟩
    rcases (key i hi).1 ha with ⟨h1, rfl⟩ | ⟨h1, rfl⟩ | rfl | ⟨h1, rfl⟩
    · exact .inl (.inl (.inl ⟨h1, hs⟩))
    · exact .inl (.inl (.inr ⟨h1, hs⟩))
    · exact .inl (.inr hs)
    · exact .inr ⟨h1, hs⟩
theorem all2 {p : Nat → Nat → Bool} (h : (List.range 64).all (fun i => (List.range 64).all fun j => p i j) = true) (i j : Nat) (hi : i < 64) (hj : j < 64) : p i j = true :=
  List.all_eq_true.1 (List.all_eq_true.1 h i (List.mem_range.2 hi)) j (List.mem_range.2 hj)
theorem adj_symm (i j : Nat) (hi : i < 64) (hj : j < 64) : adjB i j = adjB j i := by
  have := all2 (p := fun i j => adjB i j == adjB j i) (by decide +kernel) i j hi hj
  simpa using this
theorem adj_col (i j : Nat) (hi : i < 64) (hj : j < 64) (h : adjB i j = true) : isBl i = !isBl j := by
  have := all2 (p := fun i j => !adjB i j || (isBl i == !isBl j)) (by decide +kernel) i j hi hj
  simpa [h] using this
theorem bl_get (i : Nat) (hi : i < 64) : blackB.getLsbD i = isBl i := by
  rw [black_get i hi]; unfold isBl
  rw [Bool.eq_iff_iff]; simp
/-- The mate of a cell in the list. -/
def mt (mate : List B) (i : Nat) : Option Nat := if mate.getD i 0 = 0 then none else some (tz (mate.getD i 0))
/-- All that is in the list are single cells. -/
def Ones (mate : List B) : Prop := mate.length = 64 ∧ ∀ x ∈ mate, x = 0 ∨ ∃ i, i < 64 ∧ x = one i
theorem Ones.get {mate : List B} (h : Ones mate) (i : Nat) : mate.getD i 0 = 0 ∨ ∃ k, k < 64 ∧ mate.getD i 0 = one k := by
  by_cases hi : i < mate.length
  · have : mate.getD i 0 = mate[i] := by simp [List.getD, hi]
    rw [this]
    exact h.2 _ (List.getElem_mem hi)
  · left; simp [List.getD, List.getElem?_eq_none (show mate.length ≤ i by omega)]
theorem Ones.set {mate : List B} (h : Ones mate) (k j : Nat) (hj : j < 64) : Ones (mate.set k (one j)) := by
  refine ⟨by simp [h.1], fun x hx => ?_⟩
  rcases List.mem_or_eq_of_mem_set hx with h1 | rfl
  · exact h.2 x h1
  · exact .inr ⟨j, hj, rfl⟩
def muP (mate : List B) : Pt := fun x => if isBl x then none else mt mate x
def nuP (mate : List B) : Pt := fun x => if isBl x then mt mate x else none
theorem mt_set {mate : List B} (h : Ones mate) {k j : Nat} (hk : k < 64) (hj : j < 64) : mt (mate.set k (one j)) = up (mt mate) k j := by
  funext x
  unfold mt up
  have hl := h.1
  by_cases e : x = k
  · subst e
    have e1 : (mate.set x (one j)).getD x 0 = one j := by simp [List.getD, hl, hk]
    rw [e1, if_neg (one_ne j hj), tz_one j hj]; simp
  · have e1 : (mate.set k (one j)).getD x 0 = mate.getD x 0 := by
      simp [List.getD, List.getElem?_set, Ne.symm e]
    rw [e1, if_neg e]
theorem muP_set {mate : List B} (h : Ones mate) {w c : Nat} (hw : w < 64) (hc : c < 64) (bw : isBl w = false) (bc : isBl c = true) : muP ((mate.set w (one c)).set c (one w)) = up (muP mate) w c := by
  funext x
  have e : mt ((mate.set w (one c)).set c (one w)) x = (if x = c then some w else if x = w then some c else mt mate x) := by
    rw [mt_set (h.set w c hc) hc hw, mt_set h hw hc]; rfl
  show (if isBl x = true then none else mt _ x) = (if x = w then some c else if isBl x = true then none else mt mate x)
  rw [e]
  by_cases hx : isBl x = true
  · have : x ≠ w := fun e => by rw [e, bw] at hx; simp at hx
    rw [if_pos hx, if_neg this, if_pos hx]
  · have : x ≠ c := fun e => hx (e ▸ bc)
    rw [if_neg hx, if_neg this, if_neg hx]
theorem nuP_set {mate : List B} (h : Ones mate) {w c : Nat} (hw : w < 64) (hc : c < 64) (bw : isBl w = false) (bc : isBl c = true) : nuP ((mate.set w (one c)).set c (one w)) = up (nuP mate) c w := by
  funext x
  have e : mt ((mate.set w (one c)).set c (one w)) x = (if x = c then some w else if x = w then some c else mt mate x) := by
    rw [mt_set (h.set w c hc) hc hw, mt_set h hw hc]; rfl
  show (if isBl x = true then mt _ x else none) = (if x = c then some w else if isBl x = true then mt mate x else none)
  rw [e]
  by_cases hx : isBl x = true
  · have : x ≠ w := fun e => by rw [e, bw] at hx; simp at hx
    rw [if_pos hx, if_pos hx, if_neg this]
  · have : x ≠ c := fun e => hx (e ▸ bc)
    rw [if_neg hx, if_neg this, if_neg hx]
/-- The graph: black cells of s and their neighbours in s. -/
def NS (s : B) : Nat → Nat → Prop := fun c w => c < 64 ∧ s.getLsbD w = true ∧ adjB c w = true ∧ isBl c = true
def seenP (seen : B) : Kuhn.St := fun w => seen.getLsbD w = true
theorem seenP_add (seen : B) (w : Nat) (hw : w < 64) : seenP (seen ||| one w) = add (seenP seen) w := by
  funext x
  unfold seenP add
  rw [or_get, one_get _ _ hw, Bool.or_eq_true, decide_eq_true_eq]
theorem dfs_run {s : B} : ∀ (n : Nat) (c : Nat) (mate : List B) (seen : B) (r : Bool) (mate' : List B) (seen' : B), dfs n s (one c) mate seen = some (r, mate', seen') → c < 64 → isBl c = true → Ones mate →
    (∀ w, isBl w = false → ∀ b, mt mate w = some b → isBl b = true ∧ b < 64) →
    Kuhn.Run (NS s) (muP mate) (nuP mate) (seenP seen) c r (muP mate') (nuP mate') (seenP seen') ∧ Ones mate' ∧ ∀ w, isBl w = false → ∀ b, mt mate' w = some b → isBl b = true ∧ b < 64
  | 0, c, mate, seen, r, mate', seen', hd, hc, bc, ho, hm => by simp [dfs] at hd
  | n + 1, c, mate, seen, r, mate', seen', hd, hc, bc, ho, hm => by
    unfold dfs at hd
    generalize hw : low ((nbB (one c) &&& s) &&& ~~~seen) = w at hd
    by_cases hw0 : w = 0
    · rw [if_pos hw0] at hd
      simp only [Option.some.injEq, Prod.mk.injEq] at hd
      obtain ⟨rfl, rfl, rfl⟩ := hd
      refine ⟨.fail fun x hx => ?_, ho, hm⟩
      obtain ⟨_, hsx, ha, _⟩ := hx
      have hz : (nbB (one c) &&& s) &&& ~~~seen = 0 := by
        by_cases h0 : (nbB (one c) &&& s) &&& ~~~seen = 0
        · exact h0
        · obtain ⟨i, hi, _, _, e⟩ := low_one h0
          rw [hw, hw0] at e
          exact absurd e.symm (one_ne i hi)
      have hx := congrArg (fun b : B => b.getLsbD x) hz
      simp only [sub_get, and_get, zero_get] at hx
      unfold adjB at ha
      rw [ha, hsx] at hx
      have hx64 : x < 64 := get_lt hsx
      simpa [seenP, hx64] using hx
    · rw [if_neg hw0] at hd
      have h0 : (nbB (one c) &&& s) &&& ~~~seen ≠ 0 := fun e => hw0 (by rw [← hw, e]; exact low_zero)
      obtain ⟨i, hi, hg, _, e⟩ := low_one h0
      rw [hw] at e
      subst e
      rw [sub_get, and_get, Bool.and_eq_true, Bool.and_eq_true] at hg
      obtain ⟨⟨ha, hsi⟩, hsn⟩ := hg
      have hN : NS s c i := ⟨hc, hsi, ha, bc⟩
      have hS : ¬ seenP seen i := by unfold seenP; simpa using hsn
      have bi : isBl i = false := by
        have := adj_col c i hc hi ha
        rw [bc] at this; simpa using this.symm
      rw [tz_one i hi] at hd
      have fin : ∀ (mt1 : List B), Ones mt1 → (∀ w, isBl w = false → ∀ b, mt mt1 w = some b → isBl b = true ∧ b < 64) → Ones ((mt1.set i (one c)).set (tz (one c)) (one i)) ∧ (∀ w, isBl w = false → ∀ b, mt ((mt1.set i (one c)).set (tz (one c)) (one i)) w = some b → isBl b = true ∧ b < 64) ∧ muP ((mt1.set i (one c)).set (tz (one c)) (one i)) = up (muP mt1) i c ∧ nuP ((mt1.set i (one c)).set (tz (one c)) (one i)) = up (nuP mt1) c i := by
        intro mt1 ho1 hm1
        rw [tz_one c hc]
        refine ⟨(ho1.set i c hc).set c i hi, fun w hwb b hb => ?_, muP_set ho1 hi hc bi bc, nuP_set ho1 hi hc bi bc⟩
        rw [mt_set (ho1.set i c hc) hc hi, mt_set ho1 hi hc] at hb
        unfold up at hb
        have hwc : w ≠ c := fun e => by rw [e, bc] at hwb; simp at hwb
        rw [if_neg hwc] at hb
        split at hb
        · cases hb; exact ⟨bc, hc⟩
        · exact hm1 w hwb b hb
      have hmu : ∀ k, isBl k = false → muP mate k = mt mate k := fun k hk => by unfold muP; rw [hk]; rfl
      by_cases hr0 : mate.getD i 0 = 0
      · rw [if_pos hr0] at hd
        simp only [Option.some.injEq, Prod.mk.injEq] at hd
        obtain ⟨rfl, rfl, rfl⟩ := hd
        obtain ⟨f1, f2, f3, f4⟩ := fin mate ho hm
        refine ⟨?_, f1, f2⟩
        rw [f3, f4, seenP_add _ _ hi]
        exact .free hN hS (by rw [hmu i bi]; unfold mt; rw [if_pos hr0])
      · rw [if_neg hr0] at hd
        obtain ⟨k, hk, ek⟩ := (ho.get i).resolve_left hr0
        have hmk : mt mate i = some k := by unfold mt; rw [if_neg hr0, ek, tz_one k hk]
        obtain ⟨bk, _⟩ := hm i bi k hmk
        rw [ek] at hd
        split at hd
        · simp at hd
        · rename_i m1 s1 e1
          simp only [Option.some.injEq, Prod.mk.injEq] at hd
          obtain ⟨rfl, rfl, rfl⟩ := hd
          obtain ⟨q1, q2, q3⟩ := dfs_run n k mate _ _ _ _ e1 hk bk ho hm
          rw [seenP_add _ _ hi] at q1
          obtain ⟨f1, f2, f3, f4⟩ := fin m1 q2 q3
          refine ⟨?_, f1, f2⟩
          rw [f3, f4]
          exact .take hN hS (by rw [hmu i bi]; exact hmk) q1
        · rename_i m1 s1 e1
          obtain ⟨q1, q2, q3⟩ := dfs_run n k mate _ _ _ _ e1 hk bk ho hm
          rw [seenP_add _ _ hi] at q1
          obtain ⟨r1, r2, r3⟩ := dfs_run n c m1 s1 r mate' seen' hd hc bc q2 q3
          exact ⟨.skip hN hS (by rw [hmu i bi]; exact hmk) q1 r1, r2, r3⟩
end Go.AM
namespace Go.AM
open Go Go.Proofs
open Go.AM.Kuhn hiding Run St
/-- The numbers of a set's cells, in order. -/
def bitsL (s : B) : List Nat := (List.range 64).filter fun i => s.getLsbD i
theorem sing_fuel : ∀ (d i : Nat) (s : B), i + d = 64 → (∀ j, j < i → s.getLsbD j = false) → sing (d + 1) s = sing d s
  | 0, i, s, h, hs => by
    have : s = 0 := B_zero fun j hj => hs j (by omega)
    unfold sing
    rw [if_pos this]
  | d + 1, i, s, h, hs => by
    by_cases h0 : s = 0
    · unfold sing
      rw [if_pos h0, if_pos h0]
    · have e : ∀ d, sing (d + 1) s = low s :: sing d (s &&& ~~~low s) := fun d => by
        show (if s = 0 then [] else low s :: sing d (s &&& ~~~low s)) = _
        rw [if_neg h0]
      rw [e, e]
      obtain ⟨l, hl64, hsl, hlow, e2⟩ := low_one h0
      rw [sing_fuel d (i + 1) _ (by omega) fun j hj => ?_]
      have hil : i ≤ l := by
        rcases Nat.lt_or_ge l i with h | h
        · rw [hs l h] at hsl; simp at hsl
        · exact h
      rw [sub_get, e2, one_get _ _ hl64]
      by_cases h : j = l
      · simp [h]
      · rw [hlow j (by omega)]; simp
theorem sing_bits : ∀ (d i : Nat) (s : B), i + d = 64 → (∀ j, j < i → s.getLsbD j = false) → sing d s = ((List.range' i d).filter fun j => s.getLsbD j).map one
  | 0, i, s, h, hs => rfl
  | d + 1, i, s, h, hs => by
    rw [List.range'_succ, List.filter_cons]
    cases hi : s.getLsbD i with
    | false =>
      have hs' : ∀ j, j < i + 1 → s.getLsbD j = false := fun j hj => by
        by_cases e : j = i
        · rw [e]; exact hi
        · exact hs j (by omega)
      rw [sing_fuel d (i + 1) s (by omega) hs', sing_bits d (i + 1) s (by omega) hs']
      simp
    | true =>
      have hlow := low_of hi hs
      have h0 : s ≠ 0 := ne_of_get hi
      have e : sing (d + 1) s = low s :: sing d (s &&& ~~~low s) := by
        show (if s = 0 then [] else low s :: sing d (s &&& ~~~low s)) = _
        rw [if_neg h0]
      have hs' : ∀ j, j < i + 1 → (s &&& ~~~low s).getLsbD j = false := fun j hj => by
        rw [sub_get, hlow, one_get _ _ (by omega)]
        by_cases e : j = i
        · simp [e]
        · rw [hs j (by omega)]; simp
      rw [e, sing_bits d (i + 1) _ (by omega) hs', hlow]
      simp only [if_true, List.map_cons]
      congr 2
      apply List.filter_congr
      intro j hj
      rw [List.mem_range'_1] at hj
      rw [sub_get, one_get _ _ (by omega)]
      have : j ≠ i := by omega
      simp [this]
theorem sing_eq (s : B) : sing 64 s = (bitsL s).map one := by
  rw [sing_bits 64 0 s (by omega) (fun j hj => by omega)]
  unfold bitsL
  rw [List.range_eq_range']
theorem bitsL_nodup (s : B) : (bitsL s).Nodup := List.Pairwise.filter _ List.nodup_range
theorem bitsL_mem (s : B) (i : Nat) : i ∈ bitsL s ↔ s.getLsbD i = true := by
  unfold bitsL
  rw [List.mem_filter, List.mem_range]
  exact ⟨fun h => h.2, fun h => ⟨get_lt h, h⟩⟩
def HM (mate : List B) : Prop := ∀ w, isBl w = false → ∀ b, mt mate w = some b → isBl b = true ∧ b < 64
theorem pairL_inv (s : B) : ∀ (cs : List Nat) (mate : List B) (D : Kuhn.St) (done : Nat → Prop), Ones mate → HM mate → Kuhn.Inv (NS s) (muP mate) (nuP mate) D done → cs.Nodup → (∀ c ∈ cs, c < 64 ∧ isBl c = true ∧ ¬ done c) →
    ∃ D', Kuhn.Inv (NS s) (muP (pairL s (cs.map one) mate)) (nuP (pairL s (cs.map one) mate)) D' (fun x => done x ∨ x ∈ cs) ∧ Ones (pairL s (cs.map one) mate) ∧ HM (pairL s (cs.map one) mate)
  | [], mate, D, done, ho, hm, hi, _, _ => by
    refine ⟨D, ?_, ho, hm⟩
    have : (fun x => done x ∨ x ∈ ([] : List Nat)) = done := by funext x; simp
    rw [this]; exact hi
  | c :: cs, mate, D, done, ho, hm, hi, hn, hc => by
    obtain ⟨hc64, bc, hcd⟩ := hc c (List.mem_cons_self ..)
    obtain ⟨r, m', s', hd⟩ := dfs65 s (one c) mate
    obtain ⟨q1, q2, q3⟩ := dfs_run 65 c mate 0 r m' s' hd hc64 bc ho hm
    have e0 : seenP 0 = fun _ => False := by funext x; unfold seenP; rw [zero_get]; simp
    rw [e0] at q1
    obtain ⟨D', hi'⟩ := hi.next hcd q1
    rw [List.nodup_cons] at hn
    obtain ⟨D2, h1, h2, h3⟩ := pairL_inv s cs m' D' (fun x => done x ∨ x = c) q2 q3 hi' hn.2 (fun x hx => by
      obtain ⟨a, b, d⟩ := hc x (List.mem_cons_of_mem _ hx)
      refine ⟨a, b, fun h => ?_⟩
      rcases h with h | h
      · exact d h
      · subst h; exact hn.1 hx)
    have e : pairL s ((c :: cs).map one) mate = pairL s (cs.map one) m' := by
      show (match dfs 65 s (one c) mate 0 with | some (_, m', _) => pairL s (cs.map one) m' | none => mate) = _
      rw [hd]
    rw [e]
    refine ⟨D2, ?_, h2, h3⟩
    have : (fun x => (done x ∨ x = c) ∨ x ∈ cs) = fun x => done x ∨ x ∈ c :: cs := by
      funext x
      simp only [List.mem_cons, or_assoc]
    rw [← this]; exact h1
/-- What pair leaves. -/
theorem pair_inv (s : B) : ∃ D, Kuhn.Inv (NS s) (muP (pairB s)) (nuP (pairB s)) D (fun x => s.getLsbD x = true ∧ isBl x = true) ∧ Ones (pairB s) ∧ HM (pairB s) := by
  unfold pairB
  rw [sing_eq]
  have hz : ∀ i, mt (List.replicate 64 (0 : B)) i = none := fun i => by
    unfold mt
    have : (List.replicate 64 (0 : B)).getD i 0 = 0 := by
      simp only [List.getD_eq_getElem?_getD, List.getElem?_replicate]
      split <;> rfl
    rw [if_pos this]
  have hmu : muP (List.replicate 64 (0 : B)) = fun _ => none := by funext x; unfold muP; rw [hz]; simp
  have hnu : nuP (List.replicate 64 (0 : B)) = fun _ => none := by funext x; unfold nuP; rw [hz]; simp
  obtain ⟨D, h1, h2, h3⟩ := pairL_inv s (bitsL (s &&& blackB)) (List.replicate 64 0) (fun _ => False) (fun _ => False)
    ⟨by simp, fun x hx => .inl (List.eq_of_mem_replicate hx)⟩ (fun w _ b hb => by rw [hz] at hb; simp at hb)
    (by rw [hmu, hnu]; exact ⟨⟨fun w w' b h => by simp at h, fun b w => by simp, fun w b h => by simp at h⟩, fun w h => h.elim, fun b h => h.elim, fun b h => by simp at h⟩)
    (bitsL_nodup _) (fun c hc => by
      rw [bitsL_mem, and_get, Bool.and_eq_true] at hc
      have hc64 := get_lt hc.1
      exact ⟨hc64, by rw [← bl_get c hc64]; exact hc.2, fun h => h⟩)
  refine ⟨D, ?_, h2, h3⟩
  have : (fun x => False ∨ x ∈ bitsL (s &&& blackB)) = fun x => s.getLsbD x = true ∧ isBl x = true := by
    funext x
    rw [bitsL_mem, and_get, Bool.and_eq_true]
    apply propext
    constructor
    · rintro (h | ⟨h1, h2⟩)
      · exact h.elim
      · exact ⟨h1, by rw [← bl_get x (get_lt h1)]; exact h2⟩
    · rintro ⟨h1, h2⟩
      exact .inr ⟨h1, by rw [bl_get x (get_lt h1)]; exact h2⟩
  rw [← this]; exact h1
theorem aloneL_get (mate : List B) : ∀ (l : List Nat) (lone : B) (j : Nat), (∀ i ∈ l, i < 64) → ((aloneL mate (l.map one) lone).getLsbD j = true ↔ lone.getLsbD j = true ∨ (j ∈ l ∧ mate.getD j 0 = 0))
  | [], lone, j, _ => by simp [aloneL]
  | i :: l, lone, j, h => by
    have hi := h i (List.mem_cons_self ..)
    show (aloneL mate (l.map one) (if mate.getD (tz (one i)) 0 = 0 then lone ||| one i else lone)).getLsbD j = true ↔ _
    rw [aloneL_get mate l _ j (fun x hx => h x (List.mem_cons_of_mem _ hx)), tz_one i hi]
    by_cases h0 : mate.getD i 0 = 0
    · rw [if_pos h0, or_get, one_get _ _ hi, Bool.or_eq_true, decide_eq_true_eq, List.mem_cons]
      constructor
      · rintro ((h1 | rfl) | ⟨h1, h2⟩)
        · exact .inl h1
        · exact .inr ⟨.inl rfl, h0⟩
        · exact .inr ⟨.inr h1, h2⟩
      · rintro (h1 | ⟨rfl | h1, h2⟩)
        · exact .inl (.inl h1)
        · exact .inl (.inr rfl)
        · exact .inr ⟨h1, h2⟩
    · rw [if_neg h0, List.mem_cons]
      constructor
      · rintro (h1 | ⟨h1, h2⟩)
        · exact .inl h1
        · exact .inr ⟨.inr h1, h2⟩
      · rintro (h1 | ⟨rfl | h1, h2⟩)
        · exact .inl h1
        · exact absurd h2 h0
        · exact .inr ⟨h1, h2⟩
theorem aloneB_get (s : B) (mate : List B) (j : Nat) : (aloneB s mate).getLsbD j = true ↔ s.getLsbD j = true ∧ mt mate j = none := by
  unfold aloneB
  rw [sing_eq, aloneL_get mate (bitsL s) 0 j (fun i hi => get_lt ((bitsL_mem s i).1 hi)), zero_get, bitsL_mem]
  unfold mt
  by_cases h : mate.getD j 0 = 0
  · simp [h]
  · rw [if_neg h]
    constructor
    · rintro (h1 | ⟨_, h2⟩)
      · simp at h1
      · exact absurd h2 h
    · rintro ⟨_, h2⟩
      simp at h2
theorem canB_iff (s : B) : canB s = true ↔ ∀ i, s.getLsbD i = true → mt (pairB s) i ≠ none := by
  unfold canB
  rw [decide_eq_true_eq]
  constructor
  · intro h i hi hn
    have := (aloneB_get s (pairB s) i).2 ⟨hi, hn⟩
    rw [h, zero_get] at this
    simp at this
  · intro h
    refine B_zero fun i _ => ?_
    cases e : (aloneB s (pairB s)).getLsbD i with
    | false => rfl
    | true =>
      obtain ⟨h1, h2⟩ := (aloneB_get s (pairB s) i).1 e
      exact absurd h2 (h i h1)
/-- A perfect matching. -/
def PM (s : B) (f : Pt) : Prop := ∀ i, s.getLsbD i = true → ∃ j, f i = some j ∧ s.getLsbD j = true ∧ adjB i j = true ∧ f j = some i
theorem pm_of_can {s : B} (h : canB s = true) : PM s (mt (pairB s)) := by
  rw [canB_iff] at h
  obtain ⟨D, hI, ho, hm⟩ := pair_inv s
  intro i hi
  have hi64 := get_lt hi
  cases e : mt (pairB s) i with
  | none => exact absurd e (h i hi)
  | some j =>
    refine ⟨j, rfl, ?_⟩
    by_cases hb : isBl i = true
    · have hnu : nuP (pairB s) i = some j := by unfold nuP; rw [if_pos hb]; exact e
      have hmu := (hI.ok.cons i j).1 hnu
      obtain ⟨_, hsj, ha, _⟩ := hI.ok.edge j i hmu
      refine ⟨hsj, ha, ?_⟩
      unfold muP at hmu
      split at hmu
      · simp at hmu
      · exact hmu
    · have hmu : muP (pairB s) i = some j := by unfold muP; rw [if_neg hb]; exact e
      have hnu := (hI.ok.cons j i).2 hmu
      obtain ⟨hj64, _, ha, bj⟩ := hI.ok.edge i j hmu
      have hd := hI.only j (by rw [hnu]; simp)
      refine ⟨hd.1, by rw [adj_symm i j hi64 hj64]; exact ha, ?_⟩
      unfold nuP at hnu
      rw [if_pos bj] at hnu
      exact hnu
/-- Pigeons. -/
theorem nodup_len : ∀ {l l' : List Nat}, l.Nodup → (∀ x ∈ l, x ∈ l') → l.length ≤ l'.length
  | [], l', _, _ => Nat.zero_le _
  | x :: l, l', hn, h => by
    rw [List.nodup_cons] at hn
    have hx := h x (List.mem_cons_self ..)
    have := nodup_len (l := l) (l' := l'.erase x) hn.2 fun y hy => by
      have : y ≠ x := fun e => hn.1 (e ▸ hy)
      exact (List.mem_erase_of_ne this).2 (h y (List.mem_cons_of_mem _ hy))
    have h2 := List.length_erase_of_mem hx
    have h3 := List.length_pos_of_mem hx
    simp only [List.length_cons]
    omega
theorem map_nodup {φ : Nat → Nat} : ∀ {l : List Nat}, l.Nodup → (∀ x ∈ l, ∀ y ∈ l, φ x = φ y → x = y) → (l.map φ).Nodup
  | [], _, _ => by simp
  | x :: l, hn, h => by
    rw [List.nodup_cons] at hn
    rw [List.map_cons, List.nodup_cons]
    refine ⟨fun hm => ?_, map_nodup hn.2 fun a ha b hb => h a (List.mem_cons_of_mem _ ha) b (List.mem_cons_of_mem _ hb)⟩
    obtain ⟨y, hy, e⟩ := List.mem_map.1 hm
    have := h x (List.mem_cons_self ..) y (List.mem_cons_of_mem _ hy) e.symm
    exact hn.1 (this ▸ hy)
open Classical in
theorem pig (X : Nat → Prop) (φ : Nat → Nat) (hX : ∀ x, X x → x < 64) (hφ : ∀ x, X x → X (φ x)) (inj : ∀ x, X x → ∀ y, X y → φ x = φ y → x = y) (c : Nat) (hc : X c) : ∃ x, X x ∧ φ x = c := by
  refine Classical.byContradiction fun hn => ?_
  have hmem : ∀ x, x ∈ (List.range 64).filter (fun x => decide (X x)) ↔ X x := fun x => by
    rw [List.mem_filter, List.mem_range, decide_eq_true_eq]
    exact ⟨fun h => h.2, fun h => ⟨hX x h, h⟩⟩
  have hnd : ((List.range 64).filter fun x => decide (X x)).Nodup := List.Pairwise.filter _ List.nodup_range
  generalize (List.range 64).filter (fun x => decide (X x)) = l at hmem hnd
  have h1 := map_nodup (φ := φ) hnd fun x hx y hy => inj x ((hmem x).1 hx) y ((hmem y).1 hy)
  have h2 := nodup_len (l := l.map φ) (l' := l.erase c) h1 fun y hy => by
    obtain ⟨x, hx, rfl⟩ := List.mem_map.1 hy
    have hx' := (hmem x).1 hx
    have : φ x ≠ c := fun e => hn ⟨x, hx', e⟩
    exact (List.mem_erase_of_ne this).2 ((hmem _).2 (hφ x hx'))
  have h3 := List.length_erase_of_mem ((hmem c).2 hc)
  have h4 := List.length_pos_of_mem ((hmem c).2 hc)
  simp at h2
  omega
end Go.AM
namespace Go.AM
open Go Go.Proofs
open Go.AM.Kuhn hiding Run St
theorem can_of_pm {s : B} {f : Pt} (hf : PM s f) : canB s = true := by
  rw [canB_iff]
  obtain ⟨D, hI, ho, hm⟩ := pair_inv s
  -- every black cell has a mate
  have hbl : ∀ c, s.getLsbD c = true → isBl c = true → nuP (pairB s) c ≠ none := by
    intro c hsc hbc hn
    have hcD := (hI.each c ⟨hsc, hbc⟩).resolve_left (fun h => h hn)
    have hout : ∀ b, (b = c ∨ ∃ w, D w ∧ muP (pairB s) w = some b) → ∃ j b', f b = some j ∧ f j = some b ∧ D j ∧ muP (pairB s) j = some b' ∧ b' < 64 := by
      intro b hb
      have hsb : s.getLsbD b = true ∧ isBl b = true := by
        rcases hb with rfl | ⟨w, _, hw⟩
        · exact ⟨hsc, hbc⟩
        · exact hI.only b (by rw [(hI.ok.cons b w).2 hw]; simp)
      obtain ⟨j, h1, h2, h3, h4⟩ := hf b hsb.1
      have hN : NS s b j := ⟨get_lt hsb.1, h2, h3, hsb.2⟩
      have hDj : D j := by
        rcases hb with rfl | ⟨w, hw, hw2⟩
        · exact hcD j hN
        · obtain ⟨b2, h5, h6⟩ := hI.closed w hw
          rw [hw2] at h5
          cases h5
          exact h6 j hN
      obtain ⟨b', h5, _⟩ := hI.closed j hDj
      exact ⟨j, b', h1, h4, hDj, h5, (hI.ok.edge j b' h5).1⟩
    obtain ⟨b, hb, he⟩ := pig (fun b => b < 64 ∧ (b = c ∨ ∃ w, D w ∧ muP (pairB s) w = some b)) (fun b => match f b with | some j => (muP (pairB s) j).getD 0 | none => 0) (fun x hx => hx.1)
      (fun b hb => by
        obtain ⟨j, b', h1, _, h3, h4, h5⟩ := hout b hb.2
        simp only [h1, h4, Option.getD_some]
        exact ⟨h5, .inr ⟨j, h3, h4⟩⟩)
      (fun b hb b2 hb2 he => by
        obtain ⟨j, b', h1, h2, h3, h4, h5⟩ := hout b hb.2
        obtain ⟨j2, b2', g1, g2, g3, g4, g5⟩ := hout b2 hb2.2
        simp only [h1, h4, g1, g4, Option.getD_some] at he
        subst he
        have := hI.ok.inj j j2 b' h4 g4
        subst this
        rw [h2] at g2
        exact Option.some.inj g2) c ⟨get_lt hsc, .inl rfl⟩
    obtain ⟨j, b', h1, _, _, h4, _⟩ := hout b hb.2
    simp only [h1, h4, Option.getD_some] at he
    subst he
    rw [(hI.ok.cons b' j).2 h4] at hn
    simp at hn
  intro i hi hn
  have hi64 := get_lt hi
  by_cases hb : isBl i = true
  · have := hbl i hi hb
    unfold nuP at this
    rw [if_pos hb] at this
    exact this hn
  · have hmi : muP (pairB s) i = none := by unfold muP; rw [if_neg hb]; exact hn
    have hout : ∀ x, x < 64 ∧ s.getLsbD x = true ∧ isBl x = false → ∃ b w, f x = some b ∧ f b = some x ∧ nuP (pairB s) b = some w ∧ muP (pairB s) w = some b ∧ w < 64 ∧ s.getLsbD w = true ∧ isBl w = false := by
      intro x ⟨hx, hsx, hbx⟩
      obtain ⟨b, h1, h2, h3, h4⟩ := hf x hsx
      have hb64 := get_lt h2
      have hbb : isBl b = true := by
        have := adj_col x b hx hb64 h3
        rw [hbx] at this
        simpa using this.symm
      cases e : nuP (pairB s) b with
      | none => exact absurd e (hbl b h2 hbb)
      | some w =>
        have hmw := (hI.ok.cons b w).1 e
        obtain ⟨_, hsw, ha, _⟩ := hI.ok.edge w b hmw
        have hw64 := get_lt hsw
        have hbw : isBl w = false := by
          have := adj_col b w hb64 hw64 ha
          rw [hbb] at this
          simpa using this.symm
        exact ⟨b, w, h1, h4, e, hmw, hw64, hsw, hbw⟩
    obtain ⟨x, hx, he⟩ := pig (fun x => x < 64 ∧ s.getLsbD x = true ∧ isBl x = false) (fun x => match f x with | some b => (nuP (pairB s) b).getD 0 | none => 0) (fun x hx => hx.1)
      (fun x hx => by
        obtain ⟨b, w, h1, _, h3, _, h5⟩ := hout x hx
        simp only [h1, h3, Option.getD_some]
        exact h5)
      (fun x hx y hy he => by
        obtain ⟨b, w, h1, h2, h3, h4, _⟩ := hout x hx
        obtain ⟨b2, w2, g1, g2, g3, g4, _⟩ := hout y hy
        simp only [h1, h3, g1, g3, Option.getD_some] at he
        subst he
        rw [h4] at g4
        cases g4
        rw [h2] at g2
        exact Option.some.inj g2) i ⟨hi64, hi, by simpa using hb⟩
    obtain ⟨b, w, h1, _, h3, h4, _⟩ := hout x hx
    simp only [h1, h3, Option.getD_some] at he
    subst he
    rw [h4] at hmi
    simp at hmi
theorem adjB_iff (i j : Nat) (hi : i < 64) (hj : j < 64) : adjB i j = true ↔ (j % 8 ≠ 7 ∧ i = j + 1) ∨ (j % 8 ≠ 0 ∧ i = j - 1) ∨ i = j + 8 ∨ (8 ≤ j ∧ i = j - 8) := by
  unfold adjB
  rw [nb_get _ _ hj, one_get _ _ hi, one_get _ _ hi, one_get _ _ hi, one_get _ _ hi]
  simp only [Bool.or_eq_true, Bool.and_eq_true, decide_eq_true_eq, ne_eq, decide_not, Bool.not_eq_true', decide_eq_false_iff_not]
  omega
theorem right_one (l : Nat) (h : l < 64) : rightB (one l) = if l % 8 = 7 then 0 else one (l + 1) := by
  have := all64 (p := fun l => rightB (one l) == if l % 8 = 7 then 0 else one (l + 1)) (by decide +kernel) l h
  simpa using this
theorem below_one (l : Nat) (h : l < 64) : belowB (one l) = if 56 ≤ l then 0 else one (l + 8) := by
  have := all64 (p := fun l => belowB (one l) == if 56 ≤ l then 0 else one (l + 8)) (by decide +kernel) l h
  simpa using this
/-- What is left when two cells are taken. -/
def less2 (s : B) (l j : Nat) : B := s &&& ~~~(one l ||| one j)
theorem less2_get (s : B) (l j i : Nat) (hl : l < 64) (hj : j < 64) : (less2 s l j).getLsbD i = true ↔ s.getLsbD i = true ∧ i ≠ l ∧ i ≠ j := by
  unfold less2
  rw [sub_get, or_get, one_get _ _ hl, one_get _ _ hj]
  simp
theorem less2_unc {s : B} {l j : Nat} (hl : l < 64) (hj : j < 64) (h : s.getLsbD l = true) : unc s < unc (less2 s l j) := by
  refine unc_lt (fun i hi => ((less2_get s l j i hl hj).1 hi).1) hl ?_ h
  cases e : (less2 s l j).getLsbD l with
  | false => rfl
  | true => exact absurd rfl ((less2_get s l j l hl hj).1 e).2.1
theorem and_one {s : B} {j : Nat} (hj : j < 64) : s &&& one j ≠ 0 ↔ s.getLsbD j = true := by
  constructor
  · intro h
    obtain ⟨i, hi, hg⟩ := B_ne h
    rw [and_get, one_get _ _ hj, Bool.and_eq_true, decide_eq_true_eq] at hg
    rw [← hg.2]; exact hg.1
  · intro h
    refine ne_of_get (i := j) ?_
    rw [and_get, one_get _ _ hj, h]; simp
/-- The tilings of a set, by the domino at its first cell. -/
theorem NT_first {s : B} {l : Nat} (hsl : s.getLsbD l = true) (hlow : ∀ j, j < l → s.getLsbD j = false) :
    NT s = (if l % 8 ≠ 7 ∧ s.getLsbD (l + 1) = true then NT (less2 s l (l + 1)) else 0) + (if l < 56 ∧ s.getLsbD (l + 8) = true then NT (less2 s l (l + 8)) else 0) := by
  have hl := get_lt hsl
  rw [NT_rec (ne_of_get hsl), low_of hsl hlow, right_one l hl, below_one l hl]
  congr 1
  · by_cases h : l % 8 = 7
    · rw [if_pos h, if_neg (by simp), if_neg (fun x => x.1 h)]
    · rw [if_neg h]
      have hj : l + 1 < 64 := by omega
      by_cases h2 : s.getLsbD (l + 1) = true
      · rw [if_pos ((and_one hj).2 h2), if_pos ⟨h, h2⟩]; rfl
      · rw [if_neg (fun x => h2 ((and_one hj).1 x)), if_neg (fun x => h2 x.2)]
  · by_cases h : 56 ≤ l
    · rw [if_pos h, if_neg (by simp), if_neg (fun x => by omega)]
    · rw [if_neg h]
      have hj : l + 8 < 64 := by omega
      by_cases h2 : s.getLsbD (l + 8) = true
      · rw [if_pos ((and_one hj).2 h2), if_pos ⟨by omega, h2⟩]; rfl
      · rw [if_neg (fun x => h2 ((and_one hj).1 x)), if_neg (fun x => h2 x.2)]
theorem adj_next {l j : Nat} (hl : l < 64) (hj : j < 64) (hlt : l < j) : adjB l j = true ↔ (l % 8 ≠ 7 ∧ j = l + 1) ∨ (l < 56 ∧ j = l + 8) := by
  rw [adjB_iff l j hl hj]; omega
theorem pm_less {s : B} {f : Pt} (h : PM s f) {l j : Nat} (hl : s.getLsbD l = true) (hj : s.getLsbD j = true) (h1 : f l = some j) (h2 : f j = some l) : PM (less2 s l j) f := by
  have hl64 := get_lt hl
  have hj64 := get_lt hj
  intro i hi
  rw [less2_get s l j i hl64 hj64] at hi
  obtain ⟨k, a, b, c, d⟩ := h i hi.1
  refine ⟨k, a, (less2_get s l j k hl64 hj64).2 ⟨b, fun e => ?_, fun e => ?_⟩, c, d⟩
  · subst e; rw [h1] at d; exact hi.2.2 (Option.some.inj d).symm
  · subst e; rw [h2] at d; exact hi.2.1 (Option.some.inj d).symm
theorem nt_of_pm : ∀ (n : Nat) (s : B) (f : Pt), 64 - unc s ≤ n → PM s f → 0 < NT s
  | n, s, f, hn, h => by
    by_cases h0 : s = 0
    · rw [h0, NT_zero]; omega
    · obtain ⟨l, hl, hsl, hlow, _⟩ := low_one h0
      obtain ⟨j, h1, h2, h3, h4⟩ := h l hsl
      have hj := get_lt h2
      have hlt : l < j := by
        rcases Nat.lt_trichotomy l j with h5 | h5 | h5
        · exact h5
        · subst h5
          have := adj_col l l hl hl h3
          cases isBl l <;> simp at this
        · rw [hlow j h5] at h2; simp at h2
      have hu := less2_unc (s := s) hl hj hsl
      have hle := unc_le (less2 s l j)
      obtain ⟨n', rfl⟩ : ∃ n', n = n' + 1 := ⟨n - 1, by omega⟩
      have ih := nt_of_pm n' (less2 s l j) f (by omega) (pm_less h hsl h2 h1 h4)
      rw [NT_first hsl hlow]
      rcases (adj_next hl hj hlt).1 h3 with ⟨h5, rfl⟩ | ⟨h5, rfl⟩
      · rw [if_pos ⟨h5, h2⟩]; omega
      · rw [if_pos (c := l < 56 ∧ _) ⟨h5, h2⟩]; omega
theorem pm_more {s : B} {f : Pt} {l j : Nat} (hl : s.getLsbD l = true) (hj : s.getLsbD j = true) (hlj : l ≠ j) (ha : adjB l j = true) (h : PM (less2 s l j) f) : PM s (up (up f l j) j l) := by
  have hl64 := get_lt hl
  have hj64 := get_lt hj
  intro i hi
  by_cases e1 : i = j
  · subst e1
    exact ⟨l, up_self _ _ _, hl, by rw [adj_symm i l hj64 hl64]; exact ha, by rw [up_ne hlj, up_self]⟩
  · by_cases e2 : i = l
    · subst e2
      exact ⟨j, by rw [up_ne hlj, up_self], hj, ha, up_self _ _ _⟩
    · obtain ⟨k, a, b, c, d⟩ := h i ((less2_get s l j i hl64 hj64).2 ⟨hi, e2, e1⟩)
      obtain ⟨b1, b2, b3⟩ := (less2_get s l j k hl64 hj64).1 b
      exact ⟨k, by rw [up_ne e1, up_ne e2]; exact a, b1, c, by rw [up_ne b3, up_ne b2]; exact d⟩
theorem pm_of_nt : ∀ (n : Nat) (s : B), 64 - unc s ≤ n → 0 < NT s → ∃ f, PM s f
  | n, s, hn, h => by
    by_cases h0 : s = 0
    · exact ⟨fun _ => none, fun i hi => by rw [h0, zero_get] at hi; simp at hi⟩
    · obtain ⟨l, hl, hsl, hlow, _⟩ := low_one h0
      rw [NT_first hsl hlow] at h
      have key : ∀ j, s.getLsbD j = true → l < j → adjB l j = true → 0 < NT (less2 s l j) → ∃ f, PM s f := by
        intro j hsj hlt ha hp
        have hj := get_lt hsj
        have hu := less2_unc (s := s) hl hj hsl
        have hle := unc_le (less2 s l j)
        obtain ⟨n', rfl⟩ : ∃ n', n = n' + 1 := ⟨n - 1, by omega⟩
        obtain ⟨f, hf⟩ := pm_of_nt n' (less2 s l j) (by omega) hp
        exact ⟨_, pm_more hsl hsj (by omega) ha hf⟩
      by_cases hA : l % 8 ≠ 7 ∧ s.getLsbD (l + 1) = true
      · rw [if_pos hA] at h
        by_cases hp : 0 < NT (less2 s l (l + 1))
        · exact key (l + 1) hA.2 (by omega) ((adj_next hl (by omega) (by omega)).2 (.inl ⟨hA.1, rfl⟩)) hp
        · by_cases hB : l < 56 ∧ s.getLsbD (l + 8) = true
          · rw [if_pos (c := l < 56 ∧ _) hB] at h
            exact key (l + 8) hB.2 (by omega) ((adj_next hl (by omega) (by omega)).2 (.inr ⟨hB.1, rfl⟩)) (by omega)
          · rw [if_neg (c := l < 56 ∧ _) hB] at h; omega
      · rw [if_neg hA] at h
        by_cases hB : l < 56 ∧ s.getLsbD (l + 8) = true
        · rw [if_pos (c := l < 56 ∧ _) hB] at h
          exact key (l + 8) hB.2 (by omega) ((adj_next hl (by omega) (by omega)).2 (.inr ⟨hB.1, rfl⟩)) (by omega)
        · rw [if_neg (c := l < 56 ∧ _) hB] at h; omega
theorem canB_nt (s : B) : canB s = true ↔ 0 < NT s := by
  constructor
  · intro h; exact nt_of_pm 64 s _ (by omega) (pm_of_can h)
  · intro h
    obtain ⟨f, hf⟩ := pm_of_nt 64 s (by omega) h
    exact can_of_pm hf
end Go.AM
namespace Go.AM
open Go Go.Proofs
def goR (s : B) : Bool := decide (s &&& rightB (low s) ≠ 0) && canB (s &&& ~~~(low s ||| rightB (low s)))
/-- The dominoes of the first tiling: places of first cells, and whether they go down. -/
def ftL : Nat → B → List (Nat × Bool)
  | 0, _ => []
  | n + 1, s => if s = 0 then [] else
    if goR s = true then (tz s, false) :: ftL n (s &&& ~~~(low s ||| rightB (low s))) else (tz s, true) :: ftL n (s &&& ~~~(low s ||| belowB (low s)))
def domV (d : Nat × Bool) : List Value := [vi ((d.1 % 8 : Nat) : Int), vi ((d.1 / 8 : Nat) : Int), .bool d.2]
def domsV (l : List (Nat × Bool)) : List Value := l.flatMap domV
theorem r43_L0_s (call : CallF) (fuel base : Nat) (kp : Value → M → Res2) (kx0 : Value → M → Res2) (n : Nat) (x0 x3 : Value) (m : M) : r43_L0 call fuel base kp kx0 (n + 1) x0 x3 m =
    (k1n (mbin E .neq 58 x0 (.int .u64 0)) fun v8_1 => (kb v8_1 (kc (call base 72 [x0] m) (fun v10_2 m => (kc (call base 65 [v10_2] m) (fun v12_3 m => (k1n (mbin E .and 58 x0 v12_3) fun v15_4 => (k1n (mbin E .eql 58 v15_4 (.int .u64 0)) fun v16_5 => (kb v16_5 (kc (call base 66 [v10_2] m) (fun v27_6 m => (kc (call base 73 [v10_2] m) (fun v30_7 m => (k1n (mfield E.P 68 v30_7 0) fun v31_8 => (kc (call base 73 [v10_2] m) (fun v33_9 m => (k1n (mfield E.P 68 v33_9 1) fun v34_10 => (k1n (mbuild E.P 31 [(0, v31_8), (1, v34_10), (2, (.bool true))]) fun v36_11 => (k2 (xbuildSlice E.P m 23 1 [(0, v36_11)]) fun v37_12 m => (k2 (vcalln E.P base m .append [23, 23] [x3, v37_12]) fun v38_13 m => (k1n (mbin E .or 58 v10_2 v27_6) fun v42_14 => (k1n (mbin E .andNot 58 x0 v42_14) fun v43_15 => (r43_L0 call fuel base kp kx0 n v43_15 v38_13 m)))))))) (fun v m => kp v m)))) (fun v m => kp v m))) (fun v m => kp v m)) (k1n (mbin E .or 58 v10_2 v12_3) fun v21_16 => (k1n (mbin E .andNot 58 x0 v21_16) fun v22_17 => (kc (call base 42 [v22_17] m) (fun v23_18 m => (k1n (mun .not v23_18) fun v24_19 => (kb v24_19 (kc (call base 66 [v10_2] m) (fun v27_20 m => (kc (call base 73 [v10_2] m) (fun v30_21 m => (k1n (mfield E.P 68 v30_21 0) fun v31_22 => (kc (call base 73 [v10_2] m) (fun v33_23 m => (k1n (mfield E.P 68 v33_23 1) fun v34_24 => (k1n (mbuild E.P 31 [(0, v31_22), (1, v34_24), (2, (.bool true))]) fun v36_25 => (k2 (xbuildSlice E.P m 23 1 [(0, v36_25)]) fun v37_26 m => (k2 (vcalln E.P base m .append [23, 23] [x3, v37_26]) fun v38_27 m => (k1n (mbin E .or 58 v10_2 v27_20) fun v42_28 => (k1n (mbin E .andNot 58 x0 v42_28) fun v43_29 => (r43_L0 call fuel base kp kx0 n v43_29 v38_27 m)))))))) (fun v m => kp v m)))) (fun v m => kp v m))) (fun v m => kp v m)) (kc (call base 73 [v10_2] m) (fun v30_30 m => (k1n (mfield E.P 68 v30_30 0) fun v31_31 => (kc (call base 73 [v10_2] m) (fun v33_32 m => (k1n (mfield E.P 68 v33_32 1) fun v34_33 => (k1n (mbuild E.P 31 [(0, v31_31), (1, v34_33), (2, (.bool false))]) fun v36_34 => (k2 (xbuildSlice E.P m 23 1 [(0, v36_34)]) fun v37_35 m => (k2 (vcalln E.P base m .append [23, 23] [x3, v37_35]) fun v38_36 m => (k1n (mbin E .or 58 v10_2 v12_3) fun v42_37 => (k1n (mbin E .andNot 58 x0 v42_37) fun v43_38 => (r43_L0 call fuel base kp kx0 n v43_38 v38_36 m)))))))) (fun v m => kp v m)))) (fun v m => kp v m))))) (fun v m => kp v m)))))))) (fun v m => kp v m))) (fun v m => kp v m)) (kx0 x3 m))) := by
  unfold r43_L0
  rw [k1_fun, vcall_fun]
structure Cal43 (call : CallF) : Prop where
  h72 : ∀ base s m, call base 72 [vb s] m = some (.ret (vb (low s)), m)
  h65 : ∀ base s m, call base 65 [vb s] m = some (.ret (vb (rightB s)), m)
  h66 : ∀ base s m, call base 66 [vb s] m = some (.ret (vb (belowB s)), m)
  h73 : ∀ base s m, call base 73 [vb s] m = some (.ret (.agg #[vi ((tz s % 8 : Nat) : Int), vi ((tz s / 8 : Nat) : Int)]), m)
  h42 : ∀ base s m, call base 42 [vb s] m = some (.ret (.bool (canB s)), m)
theorem f68_0 (a b : Value) : mfield E.P 68 (.agg #[a, b]) 0 = some a := by kernel_rfl
theorem f68_1 (a b : Value) : mfield E.P 68 (.agg #[a, b]) 1 = some b := by kernel_rfl
theorem b31 (a b : Int) (c : Bool) : mbuild E.P 31 [(0, vi a), (1, vi b), (2, .bool c)] = some (.agg #[vi a, vi b, .bool c]) := by kernel_rfl
theorem mnot (b : Bool) : mun .not (.bool b) = some (.bool (!b)) := rfl
theorem tz_low {s : B} (h : s ≠ 0) : tz (low s) = tz s := by
  obtain ⟨l, hl64, hsl, hlow, e⟩ := low_one h
  rw [e, tz_of hsl hlow, tz_of (i := l) (by rw [one_get _ _ hl64]; simp) (fun j hj => by rw [one_get _ _ hl64]; simp; omega)]
theorem clr_low {s : B} {i : Nat} (hs : ∀ j, j < i → s.getLsbD j = false) (h : s ≠ 0) (t : B) : ∀ j, j < i + 1 → (s &&& ~~~(low s ||| t)).getLsbD j = false := by
  obtain ⟨l, hl64, hsl, hlow, e⟩ := low_one h
  have hil : i ≤ l := by
    rcases Nat.lt_or_ge l i with h | h
    · rw [hs l h] at hsl; simp at hsl
    · exact h
  intro j hj
  rw [sub_get, or_get, e, one_get _ _ hl64]
  by_cases h : j = l
  · simp [h]
  · rw [hlow j (by omega)]; simp
theorem ftL_succ (d : Nat) (s : B) (h : s ≠ 0) : ftL (d + 1) s = if goR s = true then (tz s, false) :: ftL d (s &&& ~~~(low s ||| rightB (low s))) else (tz s, true) :: ftL d (s &&& ~~~(low s ||| belowB (low s))) := by
  show (if s = 0 then [] else _) = _
  rw [if_neg h]
theorem loop43 (call : CallF) (hc : Cal43 call) (fuel base b : Nat) (hbb : base ≤ b) (kp : Value → M → Res2) (kx0 : Value → M → Res2) : ∀ (d n i : Nat) (s : B) (v : Value) (m : M) (acc : List (Nat × Bool)), i + d = 64 → (∀ j, j < i → s.getLsbD j = false) → d + 1 ≤ n → acc.length ≤ i → b ≤ m.length → Grow 3 b m v (domsV acc) acc.length →
    ∃ v' m', r43_L0 call fuel base kp kx0 n (vb s) v m = kx0 v' m' ∧ Grow 3 b m' v' (domsV (acc ++ ftL d s)) (acc ++ ftL d s).length ∧ Keeps b m m' := by
  intro d
  induction d with
  | zero =>
    intro n i s v m acc hi hs hn hacc hb hg
    have h0 : s = 0 := B_zero fun j hj => hs j (by omega)
    obtain ⟨n', rfl⟩ : ∃ n', n = n' + 1 := ⟨n - 1, by omega⟩
    refine ⟨v, m, ?_, by simpa [ftL] using hg, Keeps.refl _ _⟩
    rw [r43_L0_s, show (.int .u64 0 : Value) = vb 0 from rfl, b_ne, h0]
    rfl
  | succ d ih =>
    intro n i s v m acc hi hs hn hacc hb hg
    obtain ⟨n', rfl⟩ : ∃ n', n = n' + 1 := ⟨n - 1, by omega⟩
    by_cases h0 : s = 0
    · refine ⟨v, m, ?_, by simpa [ftL, h0] using hg, Keeps.refl _ _⟩
      rw [r43_L0_s, show (.int .u64 0 : Value) = vb 0 from rfl, b_ne, h0]
      rfl
    · have step : ∀ (dn : Bool) (t : B), ∃ v2 m2, (∀ k : Value → M → Res2, (k2 (xbuildSlice E.P m 23 1 [(0, (.agg #[vi ((tz s % 8 : Nat) : Int), vi ((tz s / 8 : Nat) : Int), .bool dn]))]) fun u m => k2 (vcalln E.P base m .append [23, 23] [v, u]) k) = k v2 m2) ∧
          Grow 3 b m2 v2 (domsV (acc ++ [(tz s, dn)])) (acc ++ [(tz s, dn)]).length ∧ Keeps b m m2 ∧
          ∃ v' m', r43_L0 call fuel base kp kx0 n' (vb (s &&& ~~~(low s ||| t))) v2 m2 = kx0 v' m' ∧ Grow 3 b m' v' (domsV ((acc ++ [(tz s, dn)]) ++ ftL d (s &&& ~~~(low s ||| t)))) ((acc ++ [(tz s, dn)]) ++ ftL d (s &&& ~~~(low s ||| t))).length ∧ Keeps b m m' := by
        intro dn t
        obtain ⟨v1, m1, hk, hg1, hk1⟩ := grow23 hg (by omega) hbb hb ((tz s % 8 : Nat) : Int) ((tz s / 8 : Nat) : Int) dn rfl
        have hg1' : Grow 3 b m1 v1 (domsV (acc ++ [(tz s, dn)])) (acc ++ [(tz s, dn)]).length := by
          simpa [domsV, domV, List.flatMap_append] using hg1
        obtain ⟨v2, m2, hr, hg2, hk2⟩ := ih n' (i + 1) (s &&& ~~~(low s ||| t)) v1 m1 (acc ++ [(tz s, dn)]) (by omega) (clr_low hs h0 t) (by omega) (by simp; omega) (Nat.le_trans hb hk1.1) hg1'
        exact ⟨v1, m1, hk, hg1', hk1, v2, m2, hr, hg2, hk1.trans hk2⟩
      rw [ftL_succ d s h0, r43_L0_s, show (.int .u64 0 : Value) = vb 0 from rfl, b_ne]
      simp only [k1n, h0, ne_eq, not_false_eq_true, decide_true, kb, hc.h72, hc.h65, hc.h66, hc.h73, hc.h42, kc, b_and, b_eq, b_or, b_sub, f68_0, f68_1, b31, tz_low h0, mnot]
      have fin : ∀ (dn : Bool) (t : B), ∃ v' m', (k2 (xbuildSlice E.P m 23 1 [(0, (.agg #[vi ((tz s % 8 : Nat) : Int), vi ((tz s / 8 : Nat) : Int), .bool dn]))]) fun u m => k2 (vcalln E.P base m .append [23, 23] [v, u]) fun w m => r43_L0 call fuel base kp kx0 n' (vb (s &&& ~~~(low s ||| t))) w m) = kx0 v' m' ∧ Grow 3 b m' v' (domsV (acc ++ (tz s, dn) :: ftL d (s &&& ~~~(low s ||| t)))) (acc ++ (tz s, dn) :: ftL d (s &&& ~~~(low s ||| t))).length ∧ Keeps b m m' := by
        intro dn t
        obtain ⟨v1, m1, hk, _, _, v2, m2, hr, hg2, hk2⟩ := step dn t
        refine ⟨v2, m2, ?_, by simpa using hg2, hk2⟩
        rw [hk]; exact hr
      unfold goR
      by_cases h1 : s &&& rightB (low s) = 0
      · simp only [h1, decide_true, not_true_eq_false, decide_false, Bool.false_and, if_neg, Bool.false_eq_true, ne_eq]
        exact fin true (belowB (low s))
      · simp only [h1, decide_false, not_false_eq_true, decide_true, Bool.true_and, ne_eq]
        cases h2 : canB (s &&& ~~~(low s ||| rightB (low s))) with
        | true =>
          simp only [Bool.not_true, if_true]
          exact fin false (rightB (low s))
        | false =>
          simp only [Bool.not_false, Bool.false_eq_true, if_false]
          exact fin true (belowB (low s))
theorem cal43 (n : Nat) : Cal43 (rt (n + 75)) :=
  ⟨fun base s m => t72 (n + 74) base s m, fun base s m => t65 (n + 74) base s m, fun base s m => t66 (n + 74) base s m, fun base s m => t73 (n + 72) base s m, fun base s m => t42 n base s m⟩
theorem t43 (n base b : Nat) (hbb : base ≤ b) (s : B) (m : M) (hb : b ≤ m.length) : ∃ v' m', rt (n + 76) base 43 [vb s] m = some (.ret v', m') ∧ Grow 3 b m' v' (domsV (ftL 64 s)) (ftL 64 s).length ∧ Keeps b m m' := by
  obtain ⟨v', m', h1, h2, h3⟩ := loop43 (rt (n + 75)) (cal43 n) (n + 75) base b hbb (fun v m => some (.pan v, m)) (fun y3 m => (fVal y3 fun v => some (.ret v, m))) 64 (n + 75) 0 s (.slice none 0 0) m [] (by omega) (by omega) (by omega) (by simp) hb (.inl ⟨rfl, rfl, rfl⟩)
  refine ⟨v', m', (rt_imp (f := 43) (rf := rf43) (by kernel_rfl) (by kernel_rfl) (by kernel_rfl) (n + 75) base _ m).trans ?_, by simpa using h2, h3⟩
  show r43 (rt (n + 75)) (n + 75) base (vb s) m = _
  unfold r43
  rw [h1, fVal_eq]
end Go.AM
namespace Go.AM
open Go Go.Proofs
def cellB (x y : Int) : B := if 0 ≤ x ∧ x < 8 ∧ 0 ≤ y ∧ y < 8 then one (y * 8 + x).toNat else 0
theorem i_lss (a b : Int) : mbin E .lss 3 (vi a) (vi b) = some (.bool (decide (a < b))) := rfl
theorem i_geq (a b : Int) : mbin E .geq 3 (vi a) (vi b) = some (.bool (decide (b ≤ a))) := rfl
theorem i_gtr (a b : Int) : mbin E .gtr 3 (vi a) (vi b) = some (.bool (decide (b < a))) := rfl
theorem b_shli (a : B) (n : Int) (h0 : 0 ≤ n) (h : n ≤ 64) : mbin E .shl 58 (vb a) (vi n) = some (vb (a <<< n.toNat)) := by
  have e : mbin E .shl 58 (vb a) (vi n) = if n < 0 then none else some (.int .u64 (IntKind.u64.wrap ((a.toNat : Int) * 2 ^ (min n.toNat 64)))) := rfl
  rw [e, if_neg (by omega), wrap_u64]
  have h1 : min n.toNat 64 = n.toNat := by omega
  rw [h1]
  unfold vb
  congr 2
  rw [BitVec.toNat_shiftLeft, Nat.shiftLeft_eq, Int.natCast_emod, Int.natCast_mul, Int.natCast_pow]
  rfl
theorem t69 (n base : Nat) (x y : Int) (m : M) : rt (n + 1) base 69 [vi x, vi y] m = some (.ret (vb (cellB x y)), m) :=
  rt_pure (f := 69) (rf := rf69) (by kernel_rfl) (by kernel_rfl) (by kernel_rfl) n base _ m m _ (by
    show r69 (rt n) n m.length (vi x) (vi y) m = _
    unfold r69
    rw [k1_fun, fVal_fun, show (.int .i64 0 : Value) = vi 0 from rfl, show (.int .i64 8 : Value) = vi 8 from rfl, show (.int .u64 0 : Value) = vb 0 from rfl, show (.int .u64 1 : Value) = vb 1 from rfl]
    simp only [i_lss, i_geq, k1n]
    unfold cellB
    by_cases h1 : x < 0
    · rw [decide_eq_true h1, if_neg (by omega)]; rfl
    by_cases h2 : 8 ≤ x
    · rw [decide_eq_false h1, decide_eq_true h2, if_neg (by omega)]; rfl
    by_cases h3 : y < 0
    · rw [decide_eq_false h1, decide_eq_false h2, decide_eq_true h3, if_neg (by omega)]; rfl
    by_cases h4 : 8 ≤ y
    · rw [decide_eq_false h1, decide_eq_false h2, decide_eq_false h3, decide_eq_true h4, if_neg (by omega)]; rfl
    rw [decide_eq_false h1, decide_eq_false h2, decide_eq_false h3, decide_eq_false h4, if_pos (by omega)]
    have e1 : mbin E .mul 3 (vi y) (vi 8) = some (vi (wr (y * 8))) := rfl
    have e2 : mbin E .add 3 (vi (y * 8)) (vi x) = some (vi (wr (y * 8 + x))) := rfl
    rw [e1, wr_id (by omega) (by omega)]
    simp only [kb]
    rw [e2, wr_id (by omega) (by omega)]
    simp only
    rw [b_shli 1 _ (by omega) (by omega)]
    rfl) rfl
abbrev Dom := Int × Int × Bool
def dV (d : Dom) : List Value := [vi d.1, vi d.2.1, .bool d.2.2]
def dsV (l : List Dom) : List Value := l.flatMap dV
/-- isTiling, on lists. -/
def secB (s : B) (d : Dom) : B := if d.2.2 = true then belowB (low s) else rightB (low s)
def isT : B → List Dom → Bool
  | s, [] => decide (s = 0)
  | s, d :: l => if low s = cellB d.1 d.2.1 then (if s &&& secB s d = 0 then false else isT (s &&& ~~~(low s ||| secB s d)) l) else false
theorem ix23 (p l c j : Nat) (h : j < l) : mindexAddr E.P 23 (.slice (some ⟨p, 0, none⟩) l c) (vi j) = some (pt p (j * 3)) := by
  have e : mindexAddr E.P 23 (.slice (some ⟨p, 0, none⟩) l c) (vi j) = if 0 ≤ (j : Int) ∧ (j : Int) < l then some (.pointer (some ⟨p, 0 + ((j : Int)).toNat * 3, none⟩)) else none := by kernel_rfl
  rw [e, if_pos (by omega)]
  simp
theorem len23 (base : Nat) (m : M) (o l c : Nat) : vcalln E.P base m .len [23] [.slice (some ⟨o, 0, none⟩) l c] = some (vi l, m) := by kernel_rfl
theorem len23n (base : Nat) (m : M) : vcalln E.P base m .len [23] [nilS] = some (vi 0, m) := by kernel_rfl
theorem take3 (f : Dom → List Value) (hf : ∀ d, (f d).length = 3) : ∀ (l : List Dom) (j : Nat) (h : j < l.length), ((l.flatMap f).drop (j * 3)).take 3 = f l[j] ∧ j * 3 + 3 ≤ (l.flatMap f).length
  | [], j, h => by simp at h
  | d :: l, 0, _ => by
    rw [List.flatMap_cons]
    refine ⟨?_, by simp [hf]⟩
    show List.take 3 (List.drop (0 * 3) (f d ++ l.flatMap f)) = f d
    rw [Nat.zero_mul, List.drop_zero, List.take_append_of_le_length (by rw [hf]; exact Nat.le_refl _), List.take_of_length_le (by rw [hf]; exact Nat.le_refl _)]
  | d :: l, j + 1, h => by
    obtain ⟨h1, h2⟩ := take3 f hf l j (by simpa using h)
    rw [List.flatMap_cons]
    refine ⟨?_, by rw [List.length_append, hf]; omega⟩
    rw [show (j + 1) * 3 = (f d).length + j * 3 by rw [hf]; omega, List.drop_append, List.drop_of_length_le (by omega), List.nil_append]
    simpa using h1
theorem ld31 {m : M} {p off : Nat} {a b c : Value} {row : Row} (h : m[p]? = some row) (h3 : (row.cells.drop off).take 3 = [a, b, c]) (hl : off + 3 ≤ row.cells.length) : xload E.P m 31 (pt p off) = some (.agg #[a, b, c]) := by
  have e : xload E.P m 31 (pt p off) = (xread m p off 3).map fun cs => .agg cs.toArray := by kernel_rfl
  rw [e, xread_eq]
  unfold mread
  rw [h]
  simp only
  rw [if_pos hl, h3]
  rfl
theorem al31 (m : M) : xalloc E.P m 31 = some (pt m.length 0, m ++ [cellR [vi 0, vi 0, .bool false]]) := by
  have e1 : xalloc E.P m 31 = xlen m fun n => xpush m (cellR [vi 0, vi 0, .bool false]) fun m' => some (pt n 0, m') := by kernel_rfl
  rw [e1, xlen_eq, fNat_eq, xpush_eq, fList_eq]
theorem st31 (base : Nat) (m : M) (hb : base ≤ m.length) (z : List Value) (hz : z.length = 3) (d : Dom) : xstore E.P base (m ++ [cellR z]) 31 (pt m.length 0) (.agg #[vi d.1, vi d.2.1, .bool d.2.2]) = some (m ++ [cellR (dV d)]) := by
  have e3 : ∀ m1 r, xstore E.P base m1 31 (pt r 0) (.agg #[vi d.1, vi d.2.1, .bool d.2.2]) = xwrite base m1 r 0 [vi d.1, vi d.2.1, .bool d.2.2] := fun m1 r => by kernel_rfl
  rw [e3, xwrite_eq]
  unfold mwrite
  rw [if_neg (by omega)]
  match z, hz with
  | [x, y, w], _ => simp [cellR, splice, Value.oneCell', vi, dV, fList_eq]
theorem fa31 (p : Nat) : mfieldAddr E.P 31 (pt p 0) 0 = some (pt p 0) ∧ mfieldAddr E.P 31 (pt p 0) 1 = some (pt p 1) ∧ mfieldAddr E.P 31 (pt p 0) 2 = some (pt p 2) := by
  refine ⟨?_, ?_, ?_⟩ <;> kernel_rfl
theorem ld3c (m : M) (r off : Nat) : xload E.P m 3 (pt r off) = mcell m r off := by
  have e : xload E.P m 3 (pt r off) = xcell m r off := by kernel_rfl
  rw [e, xcell_eq]
theorem ld4c (m : M) (r off : Nat) : xload E.P m 4 (pt r off) = mcell m r off := by
  have e : xload E.P m 4 (pt r off) = xcell m r off := by kernel_rfl
  rw [e, xcell_eq]
theorem r44_L0_s (call : CallF) (fuel base : Nat) (kp : Value → M → Res2) (kr : Value → M → Res2) (kx0 : Value → M → Res2) (n : Nat) (x0 x9 x10 x11 : Value) (m : M) : r44_L0 call fuel base kp kr kx0 (n + 1) x0 x9 x10 x11 m =
    (k1n (mbin E .lss 3 x11 x10) fun v12_2 => (kb v12_2 (k1n (mindexAddr E.P 23 x9 x11) fun v13_3 => (k1n (xload E.P m 31 v13_3) fun v14_4 => (k2 (xalloc E.P m 31) fun v6_5 m => (ks (xstore E.P base m 31 v6_5 v14_4) fun m => (kc (call base 72 [x0] m) (fun v16_6 m => (k1n (mfieldAddr E.P 31 v6_5 0) fun v18_7 => (k1n (xload E.P m 3 v18_7) fun v19_8 => (k1n (mfieldAddr E.P 31 v6_5 1) fun v20_9 => (k1n (xload E.P m 3 v20_9) fun v21_10 => (kc (call base 69 [v19_8, v21_10] m) (fun v22_11 m => (k1n (mbin E .neq 58 v16_6 v22_11) fun v23_12 => (kb v23_12 (kr (.bool false) m) (kc (call base 65 [v16_6] m) (fun v25_13 m => (k1n (mfieldAddr E.P 31 v6_5 2) fun v26_14 => (k1n (xload E.P m 4 v26_14) fun v27_15 => (kb v27_15 (kc (call base 66 [v16_6] m) (fun v29_16 m => (k1n (mbin E .and 58 x0 v29_16) fun v32_17 => (k1n (mbin E .eql 58 v32_17 (.int .u64 0)) fun v33_18 => (kb v33_18 (kr (.bool false) m) (k1n (mbin E .or 58 v16_6 v29_16) fun v37_19 => (k1n (mbin E .andNot 58 x0 v37_19) fun v38_20 => (k1n (mbin E .add 3 x11 (.int .i64 1)) fun v39_21 => (r44_L0 call fuel base kp kr kx0 n v38_20 x9 x10 v39_21 m)))))))) (fun v m => kp v m)) (k1n (mbin E .and 58 x0 v25_13) fun v32_22 => (k1n (mbin E .eql 58 v32_22 (.int .u64 0)) fun v33_23 => (kb v33_23 (kr (.bool false) m) (k1n (mbin E .or 58 v16_6 v25_13) fun v37_24 => (k1n (mbin E .andNot 58 x0 v37_24) fun v38_25 => (k1n (mbin E .add 3 x11 (.int .i64 1)) fun v39_26 => (r44_L0 call fuel base kp kr kx0 n v38_25 x9 x10 v39_26 m))))))))))) (fun v m => kp v m))))) (fun v m => kp v m))))))) (fun v m => kp v m)))))) (kx0 x0 m))) := by
  unfold r44_L0
  rw [k1_fun]
structure Cal44 (call : CallF) : Prop where
  h72 : ∀ base s m, call base 72 [vb s] m = some (.ret (vb (low s)), m)
  h65 : ∀ base s m, call base 65 [vb s] m = some (.ret (vb (rightB s)), m)
  h66 : ∀ base s m, call base 66 [vb s] m = some (.ret (vb (belowB s)), m)
  h69 : ∀ base x y m, call base 69 [vi x, vi y] m = some (.ret (vb (cellB x y)), m)
theorem loop44 (call : CallF) (hc : Cal44 call) (fuel base : Nat) (kp : Value → M → Res2) {p N : Nat} {l : List Dom} (hl : l.length = N) (hN : N ≤ 1000000) (L : Nat) (hb : base ≤ L) (hp : p < L) :
    ∀ (n j : Nat) (s : B) (m : M), L ≤ m.length → (∃ row, m[p]? = some row ∧ row.cells = dsV l) → j ≤ N → N < n + j →
      ∃ m', r44_L0 call fuel base kp (fun y4_27 m => (some (.ret y4_27, m))) (fun y0_28 m => (k1n (mbin E .eql 58 y0_28 (vb 0)) fun v41_29 => some (.ret v41_29, m))) n (vb s) (sl p N) (vi N) (vi j) m = some (.ret (.bool (isT s (l.drop j))), m')
  | 0, j, s, m, _, _, hj, hn => by omega
  | n + 1, j, s, m, hL, hr, hj, hn => by
    rw [r44_L0_s]
    simp only [lss_nat, k1n]
    by_cases hlt : j < N
    · obtain ⟨row, hr1, hr2⟩ := hr
      obtain ⟨t1, t2⟩ := take3 dV (fun _ => rfl) l j (by omega)
      have hdrop : l.drop j = l[j]'(by omega) :: l.drop (j + 1) := List.drop_eq_getElem_cons (by omega)
      rw [hdrop]
      generalize l[j]'(by omega) = d at t1
      rw [decide_eq_true hlt]
      simp only [kb]
      rw [ix23 p N N j hlt]
      simp only
      rw [ld31 (a := vi d.1) (b := vi d.2.1) (c := .bool d.2.2) hr1 (by rw [hr2]; exact t1) (by rw [hr2]; exact t2)]
      simp only
      rw [al31]
      simp only [k2]
      rw [st31 base m (by omega) _ rfl d]
      simp only [ks, hc.h72, kc, (fa31 m.length).1, (fa31 m.length).2.1, (fa31 m.length).2.2, ld3c, ld4c]
      have c0 : mcell (m ++ [cellR (dV d)]) m.length 0 = some (vi d.1) := by simp [mcell, cellR, dV]
      have c1 : mcell (m ++ [cellR (dV d)]) m.length 1 = some (vi d.2.1) := by simp [mcell, cellR, dV]
      have c2 : mcell (m ++ [cellR (dV d)]) m.length 2 = some (.bool d.2.2) := by simp [mcell, cellR, dV]
      rw [c0, c1]
      simp only [hc.h69, kc, b_ne]
      have hr' : ∃ row, (m ++ [cellR (dV d)])[p]? = some row ∧ row.cells = dsV l := ⟨row, by rw [List.getElem?_append_left (by omega)]; exact hr1, hr2⟩
      have hL' : L ≤ (m ++ [cellR (dV d)]).length := by simp; omega
      generalize m ++ [cellR (dV d)] = m1 at hr' hL' c2 ⊢
      unfold isT secB
      by_cases h1 : low s = cellB d.1 d.2.1
      · rw [if_pos h1, decide_eq_false (fun h => h h1)]
        simp only [hc.h65, kc]
        rw [c2]
        simp only [hc.h66, kc, b_and, show (.int .u64 0 : Value) = vb 0 from rfl, b_eq]
        have step : ∀ t : B, ∃ m', r44_L0 call fuel base kp (fun y4_27 m => (some (.ret y4_27, m))) (fun y0_28 m => (k1n (mbin E .eql 58 y0_28 (vb 0)) fun v41_29 => some (.ret v41_29, m))) n (vb (s &&& ~~~(low s ||| t))) (sl p N) (vi N) (vi ((j + 1 : Nat) : Int)) m1 = some (.ret (.bool (isT (s &&& ~~~(low s ||| t)) (l.drop (j + 1)))), m') :=
          fun t => loop44 call hc fuel base kp hl hN L hb hp n (j + 1) _ m1 hL' hr' (by omega) (by omega)
        cases hd : d.2.2 with
        | true =>
          simp only [if_true, Bool.true_eq_false, Bool.false_eq_true]
          by_cases h2 : s &&& belowB (low s) = 0
          · rw [decide_eq_true h2, if_pos h2]
            exact ⟨m1, rfl⟩
          · rw [decide_eq_false h2, if_neg h2]
            simp only [b_or, b_sub]
            rw [add1 j (by omega)]
            exact step _
        | false =>
          simp only [if_true, Bool.true_eq_false, Bool.false_eq_true, if_false]
          by_cases h2 : s &&& rightB (low s) = 0
          · rw [decide_eq_true h2, if_pos h2]
            exact ⟨m1, rfl⟩
          · rw [decide_eq_false h2, if_neg h2]
            simp only [b_or, b_sub]
            rw [add1 j (by omega)]
            exact step _
      · rw [if_neg h1, decide_eq_true h1]
        exact ⟨m1, rfl⟩
    · rw [decide_eq_false hlt, List.drop_eq_nil_of_le (by omega)]
      simp only [kb, b_eq]
      exact ⟨m, rfl⟩
theorem cal44 (n : Nat) : Cal44 (rt (n + 1)) := ⟨fun base s m => t72 n base s m, fun base s m => t65 n base s m, fun base s m => t66 n base s m, fun base x y m => t69 n base x y m⟩
theorem t44 (n base : Nat) (s : B) {l : List Dom} (hN : l.length ≤ n) (hN2 : l.length ≤ 1000000) (m : M) (v : Value) (hv : (l = [] ∧ v = nilS) ∨ ∃ p row, v = sl p l.length ∧ m[p]? = some row ∧ row.cells = dsV l) : rt (n + 2) base 44 [vb s, v] m = some (.ret (.bool (isT s l)), m) := by
  suffices h : ∃ m1, r44 (rt (n + 1)) (n + 1) m.length (vb s) v m = some (.ret (.bool (isT s l)), m1) by
    obtain ⟨m1, h⟩ := h
    exact rt_pure (f := 44) (rf := rf44) (by kernel_rfl) (by kernel_rfl) (by kernel_rfl) (n + 1) base _ m m1 _ h rfl
  unfold r44
  rw [vcall_fun, k1_fun, fVal_fun, show (.int .u64 0 : Value) = vb 0 from rfl]
  rcases hv with ⟨rfl, rfl⟩ | ⟨p, row, rfl, hr, hc⟩
  · rw [len23n]
    simp only [k2]
    rw [r44_L0_s, show (.int .i64 0 : Value) = vi ((0 : Nat) : Int) from rfl, show (vi 0 : Value) = vi ((0 : Nat) : Int) from rfl, lss_nat]
    simp only [k1n, kb, b_eq]
    exact ⟨m, rfl⟩
  · rw [len23]
    simp only [k2]
    have hp : p < m.length := (List.getElem?_eq_some_iff.1 hr).1
    exact loop44 (rt (n + 1)) (cal44 n) (n + 1) m.length _ rfl hN2 m.length (Nat.le_refl _) hp (n + 1) 0 s m (Nat.le_refl _) ⟨row, hr, hc⟩ (by omega) (by omega)
end Go.AM
namespace Go.AM
open Go Go.Proofs
def Mk (c : Nat) : Nat → Nat
  | 0 => 0
  | n + 1 => c + 256 * Mk c n
theorem Mk_s (c n : Nat) : Mk c (n + 1) = c + 256 * Mk c n := rfl
theorem and_byte (a c x y : Nat) (ha : a < 256) (hc : c < 256) : (a + 256 * x) &&& (c + 256 * y) = (a &&& c) + 256 * (x &&& y) := by
  have h1 : ((a + 256 * x) &&& (c + 256 * y)) % 2 ^ 8 = a &&& c := by
    rw [Nat.and_mod_two_pow]
    congr 1 <;> omega
  have h2 : ((a + 256 * x) &&& (c + 256 * y)) / 2 ^ 8 = x &&& y := by
    rw [Nat.and_div_two_pow]
    congr 1 <;> omega
  omega
theorem all256 {p : Nat → Bool} (h : (List.range 256).all p = true) (i : Nat) (hi : i < 256) : p i = true := List.all_eq_true.1 h i (List.mem_range.2 hi)
def g1 (a : Nat) : Nat := (a / 2 &&& 0x55) + (a &&& 0x55)
def g2 (a : Nat) : Nat := (a / 4 &&& 0x33) + (a &&& 0x33)
def g3 (a : Nat) : Nat := (a / 16 + a) &&& 0x0f
def f1 (n x : Nat) : Nat := (x / 2 &&& Mk 0x55 n) + (x &&& Mk 0x55 n)
def f2 (n x : Nat) : Nat := (x / 4 &&& Mk 0x33 n) + (x &&& Mk 0x33 n)
def f3 (n x : Nat) : Nat := (x / 16 + x) &&& Mk 0x0f n
theorem f1_s (n a x : Nat) (ha : a < 256) : f1 (n + 1) (a + 256 * x) = g1 a + 256 * f1 n x := by
  unfold f1 g1
  rw [Mk_s]
  rw [and_byte a 0x55 x _ ha (by omega)]
  have e : (a + 256 * x) / 2 = (a / 2 + 128 * (x % 2)) + 256 * (x / 2) := by omega
  rw [e, and_byte _ 0x55 _ _ (by omega) (by omega)]
  have : (a / 2 + 128 * (x % 2)) &&& 0x55 = a / 2 &&& 0x55 := by
    have h0 := all256 (p := fun a => (List.range 2).all fun e => (a / 2 + 128 * e) &&& 0x55 == a / 2 &&& 0x55) (by decide +kernel) a ha
    have := List.all_eq_true.1 h0 (x % 2) (List.mem_range.2 (by omega))
    simpa using this
  rw [this]; omega
theorem f2_s (n a x : Nat) (ha : a < 256) : f2 (n + 1) (a + 256 * x) = g2 a + 256 * f2 n x := by
  unfold f2 g2
  rw [Mk_s]
  rw [and_byte a 0x33 x _ ha (by omega)]
  have e : (a + 256 * x) / 4 = (a / 4 + 64 * (x % 4)) + 256 * (x / 4) := by omega
  rw [e, and_byte _ 0x33 _ _ (by omega) (by omega)]
  have : (a / 4 + 64 * (x % 4)) &&& 0x33 = a / 4 &&& 0x33 := by
    have h0 := all256 (p := fun a => (List.range 4).all fun e => (a / 4 + 64 * e) &&& 0x33 == a / 4 &&& 0x33) (by decide +kernel) a ha
    have := List.all_eq_true.1 h0 (x % 4) (List.mem_range.2 (by omega))
    simpa using this
  rw [this]; omega
theorem f3_s (n a x : Nat) (ha : a ≤ 68) (hx : x % 16 ≤ 4) : f3 (n + 1) (a + 256 * x) = g3 a + 256 * f3 n x := by
  unfold f3 g3
  rw [Mk_s]
  have e : (a + 256 * x) / 16 + (a + 256 * x) = (a / 16 + 16 * (x % 16) + a) + 256 * (x / 16 + x) := by omega
  rw [e, and_byte _ 0x0f _ _ (by omega) (by omega)]
  have : (a / 16 + 16 * (x % 16) + a) &&& 0x0f = (a / 16 + a) &&& 0x0f := by
    rw [show (0x0f : Nat) = 2 ^ 4 - 1 by rfl, Nat.and_two_pow_sub_one_eq_mod, Nat.and_two_pow_sub_one_eq_mod]; omega
  rw [this]
theorem g1_lt (a : Nat) (ha : a < 256) : g1 a < 256 := by
  have := all256 (p := fun a => decide (g1 a < 256)) (by decide +kernel) a ha
  simpa using this
theorem g2_le (a : Nat) (ha : a < 256) : g2 (g1 a) ≤ 68 ∧ g2 (g1 a) % 16 ≤ 4 := by
  have := all256 (p := fun a => decide (g2 (g1 a) ≤ 68 ∧ g2 (g1 a) % 16 ≤ 4)) (by decide +kernel) a ha
  simpa using this
def cntN : Nat → Nat → Nat
  | 0, _ => 0
  | n + 1, x => x % 2 + cntN n (x / 2)
theorem g3_cnt (a : Nat) (ha : a < 256) : g3 (g2 (g1 a)) = cntN 8 a := by
  have := all256 (p := fun a => g3 (g2 (g1 a)) == cntN 8 a) (by decide +kernel) a ha
  simpa using this
def Yp (n x : Nat) : Nat := f2 n (f1 n x)
theorem Yp_s (n a x : Nat) (ha : a < 256) : Yp (n + 1) (a + 256 * x) = g2 (g1 a) + 256 * Yp n x := by
  unfold Yp
  rw [f1_s n a x ha, f2_s _ _ _ (g1_lt a ha)]
theorem Yp_mod (n x : Nat) : Yp n x % 16 ≤ 4 := by
  cases n with
  | zero => simp [Yp, f2, Mk]
  | succ n =>
    rw [show x = x % 256 + 256 * (x / 256) by omega, Yp_s _ _ _ (by omega)]
    have := (g2_le (x % 256) (by omega)).2
    omega
theorem popF_s (n x : Nat) : f3 (n + 1) (Yp (n + 1) x) = cntN 8 (x % 256) + 256 * f3 n (Yp n (x / 256)) := by
  have e : Yp (n + 1) x = Yp (n + 1) (x % 256 + 256 * (x / 256)) := congrArg (Yp (n + 1)) (by omega)
  rw [e, Yp_s _ _ _ (by omega), f3_s _ _ _ (g2_le _ (by omega)).1 (Yp_mod _ _), g3_cnt _ (by omega)]
theorem cntN_le : ∀ n x, cntN n x ≤ n
  | 0, _ => Nat.le_refl _
  | n + 1, x => by
    show x % 2 + cntN n (x / 2) ≤ n + 1
    have := cntN_le n (x / 2); omega
theorem cntN_add (n x : Nat) : cntN (n + 8) x = cntN 8 (x % 256) + cntN n (x / 256) := by
  simp only [cntN]
  have : x / 2 / 2 / 2 / 2 / 2 / 2 / 2 / 2 = x / 256 := by omega
  rw [this]
  omega
theorem cntN_filter : ∀ (n x : Nat), ((List.range n).filter fun i => x.testBit i).length = cntN n x
  | 0, _ => rfl
  | n + 1, x => by
    rw [List.range_succ_eq_map, List.filter_cons, List.filter_map]
    have e : ((fun i => x.testBit i) ∘ Nat.succ) = fun i => (x / 2).testBit i := by
      funext i
      exact Nat.testBit_succ x i
    rw [e]
    show _ = x % 2 + cntN n (x / 2)
    rw [← cntN_filter n (x / 2)]
    by_cases h : x.testBit 0 = true
    · rw [if_pos h, List.length_cons, List.length_map]
      have : x % 2 = 1 := by simpa [Nat.testBit_zero] using h
      omega
    · rw [if_neg h, List.length_map]
      have : x % 2 = 0 := by
        have : ¬ (x % 2 = 1) := by simpa [Nat.testBit_zero] using h
        omega
      omega
/-- The number of cells. -/
def pc (s : B) : Nat := cntN 64 s.toNat
theorem pc_len (s : B) : pc s = ((List.range 64).filter fun i => s.getLsbD i).length := (cntN_filter 64 s.toNat).symm
/-- The program's way, on sets. -/
def sum8 (z : B) : B := (z + z >>> 8) + (z + z >>> 8) >>> 16 + ((z + z >>> 8) + (z + z >>> 8) >>> 16) >>> 32
theorem dv256 {a q r : Nat} (h : a = q + 256 * r) (hq : q < 256) : a / 256 = r := by omega
theorem bd256 {a q r k : Nat} (h : a = q + 256 * r) (hq : q ≤ 8) (hr : r ≤ k) : a ≤ 8 + 256 * k := by omega
theorem mod_128 (y : Nat) : y % 2 ^ 64 % 128 = y % 128 := by omega
theorem sum8_nat {z r1 r2 r3 r4 r5 r6 q0 q1 q2 q3 q4 q5 q6 q7 : Nat} (h0 : q0 ≤ 8) (h1 : q1 ≤ 8) (h2 : q2 ≤ 8) (h3 : q3 ≤ 8) (h4 : q4 ≤ 8) (h5 : q5 ≤ 8) (h6 : q6 ≤ 8) (h7 : q7 ≤ 8)
    (e0 : z = q0 + 256 * r1) (e1 : r1 = q1 + 256 * r2) (e2 : r2 = q2 + 256 * r3) (e3 : r3 = q3 + 256 * r4) (e4 : r4 = q4 + 256 * r5) (e5 : r5 = q5 + 256 * r6) (e6 : r6 = q6 + 256 * q7) {u w x : Nat} (hu : u = (z + z / 256) % 2 ^ 64) (hw : w = (u + u / 65536) % 2 ^ 64) (hx : x = (w + w / 4294967296) % 2 ^ 64) :
    x % 128 = q0 + q1 + q2 + q3 + q4 + q5 + q6 + q7 := by
  have b6 := bd256 e6 h6 h7
  have b5 := bd256 e5 h5 b6
  have b4 := bd256 e4 h4 b5
  have b3 := bd256 e3 h3 b4
  have b2 := bd256 e2 h2 b3
  have b1 := bd256 e1 h1 b2
  have b0 := bd256 e0 h0 b1
  simp only [Nat.reduceMul, Nat.reduceAdd] at b0 b1 b2 b3 b4 b5 b6
  have u0 : u = z + r1 := by
    rw [hu, dv256 e0 (by omega)]
    exact Nat.mod_eq_of_lt (by clear e0 e1 e2 e3 e4 e5 e6 hu hw hx; omega)
  have u1 : u / 65536 = r2 + r3 := by
    rw [show 65536 = 256 * 256 by rfl, ← Nat.div_div_eq_div_mul, dv256 (a := u) (r := r1 + r2) (q := q0 + q1) (by clear hu hw hx b0 b1 b2 b3 b4 b5 b6; omega) (by clear hu hw hx e0 e1 e2 e3 e4 e5 e6; omega),
      dv256 (a := r1 + r2) (r := r2 + r3) (q := q1 + q2) (by clear hu hw hx b0 b1 b2 b3 b4 b5 b6 u0; omega) (by clear hu hw hx e0 e1 e2 e3 e4 e5 e6 u0; omega)]
  clear hu
  have w0 : w = z + r1 + r2 + r3 := by
    rw [hw, u1, u0]
    have : z + r1 + (r2 + r3) = z + r1 + r2 + r3 := (Nat.add_assoc _ _ _).symm
    rw [this]
    exact Nat.mod_eq_of_lt (by clear e0 e1 e2 e3 e4 e5 e6 hw hx u0 u1 this; omega)
  clear hw u1 u0
  clear b0 b1 b2
  have w4 : w / 4294967296 = r4 + r5 + r6 + q7 := by
    rw [show 4294967296 = 256 * 256 * 256 * 256 by rfl, ← Nat.div_div_eq_div_mul, ← Nat.div_div_eq_div_mul, ← Nat.div_div_eq_div_mul,
      dv256 (a := w) (r := r1 + r2 + r3 + r4) (q := q0 + q1 + q2 + q3) (by clear hx e4 e5 e6 b3 b4 b5 b6; omega) (by clear hx e0 e1 e2 e3 e4 e5 e6 w0; omega),
      dv256 (a := r1 + r2 + r3 + r4) (r := r2 + r3 + r4 + r5) (q := q1 + q2 + q3 + q4) (by clear hx e0 e5 e6 b3 b4 b5 b6 w0; omega) (by clear hx e0 e1 e2 e3 e4 e5 e6 w0; omega),
      dv256 (a := r2 + r3 + r4 + r5) (r := r3 + r4 + r5 + r6) (q := q2 + q3 + q4 + q5) (by clear hx e0 e1 e6 b3 b4 b5 b6 w0; omega) (by clear hx e0 e1 e2 e3 e4 e5 e6 w0; omega),
      dv256 (a := r3 + r4 + r5 + r6) (r := r4 + r5 + r6 + q7) (q := q3 + q4 + q5 + q6) (by clear hx e0 e1 e2 b3 b4 b5 b6 w0; omega) (by clear hx e0 e1 e2 e3 e4 e5 e6 w0; omega)]
  rw [w4] at hx
  have x0 : x % 128 = ((q0 + q1 + q2 + q3 + q4 + q5 + q6 + q7) + 128 * (2 * (r1 + r2 + r3 + r4 + r5 + r6 + q7))) % 128 := by
    have : w + (r4 + r5 + r6 + q7) = (q0 + q1 + q2 + q3 + q4 + q5 + q6 + q7) + 128 * (2 * (r1 + r2 + r3 + r4 + r5 + r6 + q7)) := by
      clear hx w4 b3 b4 b5 b6; omega
    rw [hx, this]
    exact mod_128 _
  rw [x0, Nat.add_mul_mod_self_left]
  exact Nat.mod_eq_of_lt (by clear e0 e1 e2 e3 e4 e5 e6 w0 w4 hx x0; omega)
theorem sum8_eq (q0 q1 q2 q3 q4 q5 q6 q7 : Nat) (h0 : q0 ≤ 8) (h1 : q1 ≤ 8) (h2 : q2 ≤ 8) (h3 : q3 ≤ 8) (h4 : q4 ≤ 8) (h5 : q5 ≤ 8) (h6 : q6 ≤ 8) (h7 : q7 ≤ 8) (z : B)
    (hz : z.toNat = q0 + 256 * (q1 + 256 * (q2 + 256 * (q3 + 256 * (q4 + 256 * (q5 + 256 * (q6 + 256 * q7))))))) : (sum8 z).toNat % 128 = q0 + q1 + q2 + q3 + q4 + q5 + q6 + q7 := by
  unfold sum8
  have e1 : (z + z >>> 8).toNat = (z.toNat + z.toNat / 256) % 2 ^ 64 := by rw [BitVec.toNat_add, BitVec.toNat_ushiftRight, Nat.shiftRight_eq_div_pow]
  generalize z + z >>> 8 = u at e1 ⊢
  have e2 : (u + u >>> 16).toNat = (u.toNat + u.toNat / 65536) % 2 ^ 64 := by rw [BitVec.toNat_add, BitVec.toNat_ushiftRight, Nat.shiftRight_eq_div_pow]
  generalize u + u >>> 16 = w at e2 ⊢
  have e3 : (w + w >>> 32).toNat = (w.toNat + w.toNat / 4294967296) % 2 ^ 64 := by rw [BitVec.toNat_add, BitVec.toNat_ushiftRight, Nat.shiftRight_eq_div_pow]
  exact sum8_nat h0 h1 h2 h3 h4 h5 h6 h7 hz rfl rfl rfl rfl rfl rfl e1 e2 e3
end Go.AM
namespace Go.AM
open Go Go.Proofs
theorem c_and (a b : B) : mbin E .and 57 (vb a) (vb b) = some (vb (a &&& b)) := (show mbin E .and 57 (vb a) (vb b) = mbin E .and 58 (vb a) (vb b) from rfl).trans (b_and a b)
theorem c_shr (a : B) (n : Nat) (h : n ≤ 64) : mbin E .shr 57 (vb a) (.int .u64 (n : Int)) = some (vb (a >>> n)) := (show mbin E .shr 57 (vb a) (.int .u64 (n : Int)) = mbin E .shr 58 (vb a) (.int .u64 (n : Int)) from rfl).trans (b_shr a n h)
theorem c_add (a b : B) : mbin E .add 57 (vb a) (vb b) = some (vb (a + b)) := by
  have e : mbin E .add 57 (vb a) (vb b) = some (.int .u64 (IntKind.u64.wrap ((a.toNat : Int) + (b.toNat : Int)))) := rfl
  rw [e, wrap_u64]
  unfold vb
  congr 2
def m5B : B := 0x5555555555555555#64
def m3B : B := 0x3333333333333333#64
def mfB : B := 0x0f0f0f0f0f0f0f0f#64
theorem m5_eq : (.int .u64 6148914691236517205 : Value) = vb m5B := rfl
theorem m3_eq : (.int .u64 3689348814741910323 : Value) = vb m3B := rfl
theorem mf_eq : (.int .u64 1085102592571150095 : Value) = vb mfB := rfl
theorem m5_nat : m5B.toNat = Mk 0x55 8 := by decide +kernel
theorem m3_nat : m3B.toNat = Mk 0x33 8 := by decide +kernel
theorem mf_nat : mfB.toNat = Mk 0x0f 8 := by decide +kernel
theorem shr_nat (s : B) (k : Nat) : (s >>> k).toNat = s.toNat / 2 ^ k := by rw [BitVec.toNat_ushiftRight, Nat.shiftRight_eq_div_pow]
theorem v8_nat (s : B) : ((s >>> 1 &&& m5B) + (s &&& m5B)).toNat = f1 8 s.toNat := by
  rw [BitVec.toNat_add, BitVec.toNat_and, BitVec.toNat_and, shr_nat, m5_nat]
  have h1 : s.toNat / 2 ^ 1 &&& Mk 85 8 ≤ Mk 85 8 := Nat.and_le_right
  have h2 : s.toNat &&& Mk 85 8 ≤ Mk 85 8 := Nat.and_le_right
  have h3 : Mk 85 8 = 6148914691236517205 := by decide +kernel
  rw [Nat.mod_eq_of_lt (by omega)]
  rfl
theorem v14_nat (s : B) : ((s >>> 2 &&& m3B) + (s &&& m3B)).toNat = f2 8 s.toNat ∧ ((s >>> 2 &&& m3B) + (s &&& m3B)).toNat ≤ 7378697629483820646 := by
  rw [BitVec.toNat_add, BitVec.toNat_and, BitVec.toNat_and, shr_nat, m3_nat]
  have h1 : s.toNat / 2 ^ 2 &&& Mk 51 8 ≤ Mk 51 8 := Nat.and_le_right
  have h2 : s.toNat &&& Mk 51 8 ≤ Mk 51 8 := Nat.and_le_right
  have h3 : Mk 51 8 = 3689348814741910323 := by decide +kernel
  rw [Nat.mod_eq_of_lt (by omega)]
  exact ⟨rfl, by omega⟩
theorem v19_nat (s : B) (h : s.toNat ≤ 7378697629483820646) : ((s >>> 4 + s) &&& mfB).toNat = f3 8 s.toNat := by
  rw [BitVec.toNat_and, BitVec.toNat_add, shr_nat, mf_nat, Nat.mod_eq_of_lt (by omega)]
  rfl
theorem fld_nat {s v8 v14 v19 : B} (h8 : v8 = (s >>> 1 &&& m5B) + (s &&& m5B)) (h14 : v14 = (v8 >>> 2 &&& m3B) + (v8 &&& m3B)) (h19 : v19 = (v14 >>> 4 + v14) &&& mfB) : v19.toNat = f3 8 (Yp 8 s.toNat) := by
  have e8 := v8_nat s
  rw [← h8] at e8
  have e14 := v14_nat v8
  rw [← h14] at e14
  rw [h19, v19_nat _ e14.2, e14.1, e8]
  rfl
theorem f3_0 (x : Nat) : f3 0 x = 0 := by unfold f3 Mk; exact Nat.and_zero _
theorem cnt64 (x : Nat) : cntN 64 x = cntN 8 (x % 256) + cntN 8 (x / 256 % 256) + cntN 8 (x / 256 / 256 % 256) + cntN 8 (x / 256 / 256 / 256 % 256) + cntN 8 (x / 256 / 256 / 256 / 256 % 256) + cntN 8 (x / 256 / 256 / 256 / 256 / 256 % 256) + cntN 8 (x / 256 / 256 / 256 / 256 / 256 / 256 % 256) + cntN 8 (x / 256 / 256 / 256 / 256 / 256 / 256 / 256 % 256) := by
  have h7 := cntN_add 56 x
  have h6 := cntN_add 48 (x / 256)
  have h5 := cntN_add 40 (x / 256 / 256)
  have h4 := cntN_add 32 (x / 256 / 256 / 256)
  have h3 := cntN_add 24 (x / 256 / 256 / 256 / 256)
  have h2 := cntN_add 16 (x / 256 / 256 / 256 / 256 / 256)
  have h1 := cntN_add 8 (x / 256 / 256 / 256 / 256 / 256 / 256)
  have h0 := cntN_add 0 (x / 256 / 256 / 256 / 256 / 256 / 256 / 256)
  rw [show cntN 0 (x / 256 / 256 / 256 / 256 / 256 / 256 / 256 / 256) = 0 from rfl] at h0
  simp only [Nat.reduceAdd] at h0 h1 h2 h3 h4 h5 h6 h7
  rw [h7, h6, h5, h4, h3, h2, h1, h0]
  simp only [Nat.add_assoc, Nat.add_zero]
theorem pop_eq {s v8 v14 v19 v23 v27 v31 : B} (h8 : v8 = (s >>> 1 &&& m5B) + (s &&& m5B)) (h14 : v14 = (v8 >>> 2 &&& m3B) + (v8 &&& m3B)) (h19 : v19 = (v14 >>> 4 + v14) &&& mfB)
    (h23 : v23 = v19 + v19 >>> 8) (h27 : v27 = v23 + v23 >>> 16) (h31 : v31 = v27 + v27 >>> 32) : v31.toNat % 128 = pc s := by
  have e := fld_nat h8 h14 h19
  rw [popF_s, popF_s, popF_s, popF_s, popF_s, popF_s, popF_s, popF_s, f3_0] at e
  have e2 := sum8_eq _ _ _ _ _ _ _ _ (cntN_le 8 _) (cntN_le 8 _) (cntN_le 8 _) (cntN_le 8 _) (cntN_le 8 _) (cntN_le 8 _) (cntN_le 8 _) (cntN_le 8 _) v19 e
  unfold sum8 at e2
  rw [← h23, ← h27, ← h31] at e2
  rw [e2]
  unfold pc
  rw [cnt64]
theorem cv57i (n : Int) : mconvert E.P 57 3 (.int .u64 n) = some (.int .i64 (IntKind.i64.wrap n)) := by kernel_rfl
theorem cv57 (s : B) : mconvert E.P 57 3 (vb s) = some (vi (wr (s.toNat : Int))) := cv57i _
theorem and127 (s : B) : mbin E .and 3 (vi (wr (s.toNat : Int))) (.int .i64 127) = some (vi ((s.toNat % 128 : Nat) : Int)) := by
  have e : mbin E .and 3 (vi (wr (s.toNat : Int))) (.int .i64 127) = some (.int .i64 (wr (((BitVec.ofInt 64 (wr (s.toNat : Int)) &&& BitVec.ofInt 64 127).toNat : Nat) : Int))) := rfl
  rw [e]
  have h1 : BitVec.ofInt 64 (wr (s.toNat : Int)) = s := by
    apply BitVec.eq_of_toNat_eq
    have hs := s.isLt
    rw [BitVec.toNat_ofInt]
    unfold wr IntKind.wrap
    simp [IntKind.bits, IntKind.signed]
    omega
  have h2 : (s &&& BitVec.ofInt 64 127).toNat = s.toNat % 128 := by
    rw [BitVec.toNat_and, show (BitVec.ofInt 64 127).toNat = 2 ^ 7 - 1 by decide +kernel, Nat.and_two_pow_sub_one_eq_mod]
  rw [h1, h2, wr_id (by omega) (by omega)]
  rfl
theorem t92 (n base : Nat) (s : B) (m : M) : rt (n + 1) base 92 [vb s] m = some (.ret (vi (pc s : Int)), m) :=
  rt_pure (f := 92) (rf := rf92) (by kernel_rfl) (by kernel_rfl) (by kernel_rfl) n base _ m m _ (by
    show r92 (rt n) n m.length (vb s) m = _
    unfold r92
    rw [k1_fun, fVal_fun, m5_eq, m3_eq, mf_eq]
    have s1 : ∀ a : B, mbin E .shr 57 (vb a) (.int .u64 1) = some (vb (a >>> 1)) := fun a => c_shr a 1 (by omega)
    have s2 : ∀ a : B, mbin E .shr 57 (vb a) (.int .u64 2) = some (vb (a >>> 2)) := fun a => c_shr a 2 (by omega)
    have s4 : ∀ a : B, mbin E .shr 57 (vb a) (.int .u64 4) = some (vb (a >>> 4)) := fun a => c_shr a 4 (by omega)
    have s8 : ∀ a : B, mbin E .shr 57 (vb a) (.int .u64 8) = some (vb (a >>> 8)) := fun a => c_shr a 8 (by omega)
    have s16 : ∀ a : B, mbin E .shr 57 (vb a) (.int .u64 16) = some (vb (a >>> 16)) := fun a => c_shr a 16 (by omega)
    have s32 : ∀ a : B, mbin E .shr 57 (vb a) (.int .u64 32) = some (vb (a >>> 32)) := fun a => c_shr a 32 (by omega)
    obtain ⟨v8, h8⟩ : ∃ v : B, v = (s >>> 1 &&& m5B) + (s &&& m5B) := ⟨_, rfl⟩
    obtain ⟨v14, h14⟩ : ∃ v : B, v = (v8 >>> 2 &&& m3B) + (v8 &&& m3B) := ⟨_, rfl⟩
    obtain ⟨v18, h18⟩ : ∃ v : B, v = v14 >>> 4 + v14 := ⟨_, rfl⟩
    obtain ⟨v19, h19⟩ : ∃ v : B, v = v18 &&& mfB := ⟨_, rfl⟩
    obtain ⟨v23, h23⟩ : ∃ v : B, v = v19 + v19 >>> 8 := ⟨_, rfl⟩
    obtain ⟨v27, h27⟩ : ∃ v : B, v = v23 + v23 >>> 16 := ⟨_, rfl⟩
    obtain ⟨v31, h31⟩ : ∃ v : B, v = v27 + v27 >>> 32 := ⟨_, rfl⟩
    have hp := pop_eq h8 h14 (by rw [h19, h18]) h23 h27 h31
    have a8 := c_add (s >>> 1 &&& m5B) (s &&& m5B)
    rw [← h8] at a8
    have a14 := c_add (v8 >>> 2 &&& m3B) (v8 &&& m3B)
    rw [← h14] at a14
    have a18 := c_add (v14 >>> 4) v14
    rw [← h18] at a18
    have a19 := c_and v18 mfB
    rw [← h19] at a19
    have a23 := c_add v19 (v19 >>> 8)
    rw [← h23] at a23
    have a27 := c_add v23 (v23 >>> 16)
    rw [← h27] at a27
    have a31 := c_add v27 (v27 >>> 32)
    rw [← h31] at a31
    rw [s1]
    simp only [k1n]
    rw [c_and]
    simp only
    rw [c_and]
    simp only
    rw [a8]
    simp only
    rw [s2]
    simp only
    rw [c_and]
    simp only
    rw [c_and]
    simp only
    rw [a14]
    simp only
    rw [s4]
    simp only
    rw [a18]
    simp only
    rw [a19]
    simp only
    rw [s8]
    simp only
    rw [a23]
    simp only
    rw [s16]
    simp only
    rw [a27]
    simp only
    rw [s32]
    simp only
    rw [a31]
    simp only
    rw [cv57]
    simp only
    rw [and127, hp]) rfl
theorem t74 (n base : Nat) (s : B) (m : M) : rt (n + 2) base 74 [vb s] m = some (.ret (vi (pc s : Int)), m) :=
  rt_pure (f := 74) (rf := rf74) (by kernel_rfl) (by kernel_rfl) (by kernel_rfl) (n + 1) base _ m m _ (by
    show r74 (rt (n + 1)) (n + 1) m.length (vb s) m = _
    unfold r74
    rw [t92]
    simp only [kc, fVal_eq]) rfl
end Go.AM
namespace Go.AM
open Go Go.Proofs
abbrev Cel := Int × Int
def cV (d : Cel) : List Value := [vi d.1, vi d.2]
def csV (l : List Cel) : List Value := l.flatMap cV
/-- The group that the cells make, if they are cells of the set, in order. -/
def grp (s : B) : B → List Cel → Option B
  | g, [] => some g
  | g, c :: l => if s &&& cellB c.1 c.2 = 0 then none else if (cellB c.1 c.2).toNat ≤ g.toNat then none else grp s (g ||| cellB c.1 c.2) l
def refG (s g : B) : Bool := if g &&& blackB ≠ 0 ∧ g &&& ~~~blackB ≠ 0 then false else decide (pc (nbB g &&& s) < pc g)
def refB (s : B) (l : List Cel) : Bool := match grp s 0 l with
  | none => false
  | some g => refG s g
theorem ix36 (p l c j : Nat) (h : j < l) : mindexAddr E.P 36 (.slice (some ⟨p, 0, none⟩) l c) (vi j) = some (pt p (j * 2)) := by
  have e : mindexAddr E.P 36 (.slice (some ⟨p, 0, none⟩) l c) (vi j) = if 0 ≤ (j : Int) ∧ (j : Int) < l then some (.pointer (some ⟨p, 0 + ((j : Int)).toNat * 2, none⟩)) else none := by kernel_rfl
  rw [e, if_pos (by omega)]
  simp
theorem len36 (base : Nat) (m : M) (o l c : Nat) : vcalln E.P base m .len [36] [.slice (some ⟨o, 0, none⟩) l c] = some (vi l, m) := by kernel_rfl
theorem len36n (base : Nat) (m : M) : vcalln E.P base m .len [36] [nilS] = some (vi 0, m) := by kernel_rfl
theorem take2 (f : Cel → List Value) (hf : ∀ d, (f d).length = 2) : ∀ (l : List Cel) (j : Nat) (h : j < l.length), ((l.flatMap f).drop (j * 2)).take 2 = f l[j] ∧ j * 2 + 2 ≤ (l.flatMap f).length
  | [], j, h => by simp at h
  | d :: l, 0, _ => by
    rw [List.flatMap_cons]
    refine ⟨?_, by simp [hf]⟩
    show List.take 2 (List.drop (0 * 2) (f d ++ l.flatMap f)) = f d
    rw [Nat.zero_mul, List.drop_zero, List.take_append_of_le_length (by rw [hf]; exact Nat.le_refl _), List.take_of_length_le (by rw [hf]; exact Nat.le_refl _)]
  | d :: l, j + 1, h => by
    obtain ⟨h1, h2⟩ := take2 f hf l j (by simpa using h)
    rw [List.flatMap_cons]
    refine ⟨?_, by rw [List.length_append, hf]; omega⟩
    rw [show (j + 1) * 2 = (f d).length + j * 2 by rw [hf]; omega, List.drop_append, List.drop_of_length_le (by omega), List.nil_append]
    simpa using h1
theorem ld68 {m : M} {p off : Nat} {a b : Value} {row : Row} (h : m[p]? = some row) (h3 : (row.cells.drop off).take 2 = [a, b]) (hl : off + 2 ≤ row.cells.length) : xload E.P m 68 (pt p off) = some (.agg #[a, b]) := by
  have e : xload E.P m 68 (pt p off) = (xread m p off 2).map fun cs => .agg cs.toArray := by kernel_rfl
  rw [e, xread_eq]
  unfold mread
  rw [h]
  simp only
  rw [if_pos hl, h3]
  rfl
theorem al68 (m : M) : xalloc E.P m 68 = some (pt m.length 0, m ++ [cellR [vi 0, vi 0]]) := by
  have e1 : xalloc E.P m 68 = xlen m fun n => xpush m (cellR [vi 0, vi 0]) fun m' => some (pt n 0, m') := by kernel_rfl
  rw [e1, xlen_eq, fNat_eq, xpush_eq, fList_eq]
theorem st68 (base : Nat) (m : M) (hb : base ≤ m.length) (z : List Value) (hz : z.length = 2) (d : Cel) : xstore E.P base (m ++ [cellR z]) 68 (pt m.length 0) (.agg #[vi d.1, vi d.2]) = some (m ++ [cellR (cV d)]) := by
  have e3 : ∀ m1 r, xstore E.P base m1 68 (pt r 0) (.agg #[vi d.1, vi d.2]) = xwrite base m1 r 0 [vi d.1, vi d.2] := fun m1 r => by kernel_rfl
  rw [e3, xwrite_eq]
  unfold mwrite
  rw [if_neg (by omega)]
  match z, hz with
  | [x, y], _ => simp [cellR, splice, Value.oneCell', vi, cV, fList_eq]
theorem fa68 (p : Nat) : mfieldAddr E.P 68 (pt p 0) 0 = some (pt p 0) ∧ mfieldAddr E.P 68 (pt p 0) 1 = some (pt p 1) := by
  refine ⟨?_, ?_⟩ <;> kernel_rfl
theorem b_leq (a b : B) : mbin E .leq 58 (vb a) (vb b) = some (.bool (decide (a.toNat ≤ b.toNat))) := by
  have e : mbin E .leq 58 (vb a) (vb b) = some (.bool (decide ((a.toNat : Int) ≤ (b.toNat : Int)))) := rfl
  rw [e]
  congr 2
  exact decide_eq_decide.2 (by omega)
theorem r46_L0_s (call : CallF) (fuel base : Nat) (kp : Value → M → Res2) (kr : Value → M → Res2) (kx0 : Value → Value → M → Res2) (n : Nat) (x0 x5 x9 x10 x11 : Value) (m : M) : r46_L0 call fuel base kp kr kx0 (n + 1) x0 x5 x9 x10 x11 m =
    (k1n (mbin E .lss 3 x11 x10) fun v12_2 => (kb v12_2 (k1n (mindexAddr E.P 36 x9 x11) fun v13_3 => (k1n (xload E.P m 68 v13_3) fun v14_4 => (k2 (xalloc E.P m 68) fun v7_5 m => (ks (xstore E.P base m 68 v7_5 v14_4) fun m => (k1n (mfieldAddr E.P 68 v7_5 0) fun v15_6 => (k1n (xload E.P m 3 v15_6) fun v16_7 => (k1n (mfieldAddr E.P 68 v7_5 1) fun v17_8 => (k1n (xload E.P m 3 v17_8) fun v18_9 => (kc (call base 69 [v16_7, v18_9] m) (fun v19_10 m => (k1n (mbin E .and 58 x0 v19_10) fun v22_11 => (k1n (mbin E .eql 58 v22_11 (.int .u64 0)) fun v23_12 => (kb v23_12 (kr (.bool false) m) (k1n (mbin E .leq 58 v19_10 x5) fun v27_13 => (kb v27_13 (kr (.bool false) m) (k1n (mbin E .or 58 x5 v19_10) fun v31_14 => (k1n (mbin E .add 3 x11 (.int .i64 1)) fun v32_15 => (r46_L0 call fuel base kp kr kx0 n x0 v31_14 x9 x10 v32_15 m))))))))) (fun v m => kp v m)))))))))) (kx0 x0 x5 m))) := by
  unfold r46_L0
  rw [k1_fun]
theorem loop46 (call : CallF) (hc : ∀ base x y m, call base 69 [vi x, vi y] m = some (.ret (vb (cellB x y)), m)) (fuel base : Nat) (kp : Value → M → Res2) (kr : Value → M → Res2) (kx : Value → Value → M → Res2) {p N : Nat} {l : List Cel} (hl : l.length = N) (hN : N ≤ 1000000) (L : Nat) (hb : base ≤ L) (hp : p < L) :
    ∀ (n j : Nat) (s g : B) (m : M), L ≤ m.length → (∃ row, m[p]? = some row ∧ row.cells = csV l) → j ≤ N → N < n + j →
      ∃ m', r46_L0 call fuel base kp kr kx n (vb s) (vb g) (sl p N) (vi N) (vi j) m = match grp s g (l.drop j) with
        | none => kr (.bool false) m'
        | some g' => kx (vb s) (vb g') m'
  | 0, j, s, g, m, _, _, hj, hn => by omega
  | n + 1, j, s, g, m, hL, hr, hj, hn => by
    rw [r46_L0_s]
    simp only [lss_nat, k1n]
    by_cases hlt : j < N
    · obtain ⟨row, hr1, hr2⟩ := hr
      obtain ⟨t1, t2⟩ := take2 cV (fun _ => rfl) l j (by omega)
      have hdrop : l.drop j = l[j]'(by omega) :: l.drop (j + 1) := List.drop_eq_getElem_cons (by omega)
      rw [hdrop]
      generalize l[j]'(by omega) = d at t1
      rw [decide_eq_true hlt]
      simp only [kb]
      rw [ix36 p N N j hlt]
      simp only
      rw [ld68 (a := vi d.1) (b := vi d.2) hr1 (by rw [hr2]; exact t1) (by rw [hr2]; exact t2)]
      simp only
      rw [al68]
      simp only [k2]
      rw [st68 base m (by omega) _ rfl d]
      simp only [ks, kc, (fa68 m.length).1, (fa68 m.length).2, ld3c]
      have c0 : mcell (m ++ [cellR (cV d)]) m.length 0 = some (vi d.1) := by simp [mcell, cellR, cV]
      have c1 : mcell (m ++ [cellR (cV d)]) m.length 1 = some (vi d.2) := by simp [mcell, cellR, cV]
      rw [c0, c1]
      simp only [hc, kc, b_and, show (.int .u64 0 : Value) = vb 0 from rfl, b_eq]
      have hr' : ∃ row, (m ++ [cellR (cV d)])[p]? = some row ∧ row.cells = csV l := ⟨row, by rw [List.getElem?_append_left (by omega)]; exact hr1, hr2⟩
      have hL' : L ≤ (m ++ [cellR (cV d)]).length := by simp; omega
      generalize m ++ [cellR (cV d)] = m1 at hr' hL' ⊢
      unfold grp
      by_cases h1 : s &&& cellB d.1 d.2 = 0
      · rw [if_pos h1, decide_eq_true h1]
        exact ⟨m1, rfl⟩
      · rw [if_neg h1, decide_eq_false h1]
        simp only [b_leq]
        by_cases h2 : (cellB d.1 d.2).toNat ≤ g.toNat
        · rw [if_pos h2, decide_eq_true h2]
          exact ⟨m1, rfl⟩
        · rw [if_neg h2, decide_eq_false h2]
          simp only [b_or]
          rw [add1 j (by omega)]
          exact loop46 call hc fuel base kp kr kx hl hN L hb hp n (j + 1) s _ m1 hL' hr' (by omega) (by omega)
    · rw [decide_eq_false hlt, List.drop_eq_nil_of_le (by omega)]
      exact ⟨m, rfl⟩
theorem bl_eq : (.int .u64 12273903644374837845 : Value) = vb blackB := rfl
theorem t46 (n base : Nat) (s : B) {l : List Cel} (hN : l.length ≤ n) (hN2 : l.length ≤ 1000000) (m : M) (v : Value) (hv : (l = [] ∧ v = nilS) ∨ ∃ p row, v = sl p l.length ∧ m[p]? = some row ∧ row.cells = csV l) : rt (n + 3) base 46 [vb s, v] m = some (.ret (.bool (refB s l)), m) := by
  suffices h : ∃ m1, r46 (rt (n + 2)) (n + 2) m.length (vb s) v m = some (.ret (.bool (refB s l)), m1) by
    obtain ⟨m1, h⟩ := h
    exact rt_pure (f := 46) (rf := rf46) (by kernel_rfl) (by kernel_rfl) (by kernel_rfl) (n + 2) base _ m m1 _ h rfl
  unfold r46
  rw [vcall_fun, k1_fun, fVal_fun, show (.int .u64 0 : Value) = vb 0 from rfl, bl_eq]
  have fin : ∀ (KP : Value → M → Res2) (KX : Value → Value → M → Res2), (∀ g m, ∃ m1, KX (vb s) (vb g) m = some (.ret (.bool (refG s g)), m1)) →
      ∃ m1, (k2 (vcalln E.P m.length m .len [36] [v]) fun v10_1 m' => r46_L0 (rt (n + 2)) (n + 2) m.length KP (fun y m => some (.ret y, m)) KX (n + 2) (vb s) (vb 0) v v10_1 (.int .i64 0) m') = some (.ret (.bool (refB s l)), m1) := by
    intro KP KX hK
    rw [show (.int .i64 0 : Value) = vi ((0 : Nat) : Int) from rfl]
    rcases hv with ⟨rfl, rfl⟩ | ⟨p, row, rfl, hr, hc⟩
    · rw [len36n]
      simp only [k2]
      rw [r46_L0_s, show (vi 0 : Value) = vi ((0 : Nat) : Int) from rfl, lss_nat]
      simp only [k1n, kb]
      exact hK 0 m
    · rw [len36]
      simp only [k2]
      have hp : p < m.length := (List.getElem?_eq_some_iff.1 hr).1
      obtain ⟨m', e⟩ := loop46 (rt (n + 2)) (fun base x y m => t69 (n + 1) base x y m) (n + 2) m.length KP (fun y m => some (.ret y, m)) KX rfl hN2 m.length (Nat.le_refl _) hp (n + 2) 0 s 0 m (Nat.le_refl _) ⟨row, hr, hc⟩ (by omega) (by omega)
      rw [e, List.drop_zero]
      unfold refB
      cases grp s 0 l with
      | none => exact ⟨m', rfl⟩
      | some g => exact hK g m'
  refine fin _ _ fun g m2 => ⟨m2, ?_⟩
  simp only [b_and, b_sub, b_ne, k1n]
  rw [t60]
  simp only [kc, b_and]
  rw [t74]
  simp only
  rw [t74]
  simp only [lss_nat]
  unfold refG
  by_cases h1 : g &&& blackB = 0
  · rw [if_neg (fun h => h.1 h1), decide_eq_false (fun h => h h1)]
    rfl
  · rw [decide_eq_true h1]
    by_cases h2 : g &&& ~~~blackB = 0
    · rw [if_neg (fun h => h.2 h2), decide_eq_false (fun h => h h2)]
      rfl
    · rw [if_pos ⟨h1, h2⟩, decide_eq_true h2]
      rfl
end Go.AM
namespace Go.AM
open Go Go.Proofs
def cellAt (c : B) : Cel := (((tz c % 8 : Nat) : Int), ((tz c / 8 : Nat) : Int))
def listB (s : B) : List Cel := (sing 64 s).map cellAt
theorem r51_L0_s (call : CallF) (fuel base : Nat) (kp : Value → M → Res2) (kx0 : Value → M → Res2) (n : Nat) (x3 x7 x8 x9 : Value) (m : M) : r51_L0 call fuel base kp kx0 (n + 1) x3 x7 x8 x9 m =
    (k1n (mbin E .lss 3 x9 x8) fun v10_3 => (kb v10_3 (k1n (mindexAddr E.P 86 x7 x9) fun v11_4 => (k1n (xload E.P m 58 v11_4) fun v12_5 => (kc (call base 73 [v12_5] m) (fun v15_6 m => (k2 (xbuildSlice E.P m 36 1 [(0, v15_6)]) fun v16_7 m => (k2 (vcalln E.P base m .append [36, 36] [x3, v16_7]) fun v17_8 m => (k1n (mbin E .add 3 x9 (.int .i64 1)) fun v18_9 => (r51_L0 call fuel base kp kx0 n v17_8 x7 x8 v18_9 m))))) (fun v m => kp v m)))) (kx0 x3 m))) := by
  unfold r51_L0
  rw [k1_fun, vcall_fun]
theorem r50_L2_s (call : CallF) (fuel base : Nat) (kp : Value → M → Res2) (kx2 : Value → Value → Value → Value → M → Res2) (n : Nat) (x0 x3 x4 x5 x19 x20 x21 : Value) (m : M) : r50_L2 call fuel base kp kx2 (n + 1) x0 x3 x4 x5 x19 x20 x21 m =
    (k1n (mbin E .lss 3 x21 x20) fun v22_10 => (kb v22_10 (k1n (mindexAddr E.P 86 x19 x21) fun v23_11 => (k1n (xload E.P m 58 v23_11) fun v24_12 => (kc (call base 76 [v24_12] m) (fun v27_13 m => (k1n (mindexAddr E.P 98 x3 v27_13) fun v28_14 => (k1n (xload E.P m 58 v28_14) fun v29_15 => (k1n (mbin E .or 58 x5 v29_15) fun v30_16 => (k1n (mbin E .add 3 x21 (.int .i64 1)) fun v31_17 => (r50_L2 call fuel base kp kx2 n x0 x3 x4 v30_16 x19 x20 v31_17 m)))))) (fun v m => kp v m)))) (kx2 x0 x3 x4 x5 m))) := by
  unfold r50_L2
  rw [k1_fun]
theorem r50_L0_s (call : CallF) (fuel base : Nat) (kp : Value → M → Res2) (kr : Value → M → Res2) (n : Nat) (x0 x3 x4 : Value) (m : M) : r50_L0 call fuel base kp kr (n + 1) x0 x3 x4 m =
    (kc (call base 60 [x4] m) (fun v16_6 m => (k1n (mbin E .and 58 v16_6 x0) fun v18_7 => (kc (call base 75 [v18_7] m) (fun v19_8 m => (k2 (vcalln E.P base m .len [86] [v19_8]) fun v20_9 m => (r50_L2 call fuel base (fun v m => kp v m) (fun y0_18 y3_19 y4_20 y5_21 m => (k1n (mbin E .eql 58 y5_21 y4_20) fun v34_22 => (kb v34_22 (kr y4_20 m) (r50_L0 call fuel base kp kr n y0_18 y3_19 y5_21 m)))) fuel x0 x3 x4 x4 v19_8 v20_9 (.int .i64 0) m))) (fun v m => kp v m)))) (fun v m => kp v m)) := by
  unfold r50_L0
  rw [k1_fun, vcall_fun]
theorem loop51 (call : CallF) (h73 : ∀ base s m, call base 73 [vb s] m = some (.ret (.agg #[vi ((tz s % 8 : Nat) : Int), vi ((tz s / 8 : Nat) : Int)]), m)) (fuel base b : Nat) (hbb : base ≤ b) (kp : Value → M → Res2) (kx0 : Value → M → Res2) {X : List B} {rb N : Nat} (hX : X.length = N) (hN : N ≤ 64) (hrb : rb < b) :
    ∀ (n j : Nat) (v : Value) (m : M) (acc : List Cel), b ≤ m.length → m[rb]? = some (words X) → j ≤ N → N < n + j → acc.length = j → Grow 2 b m v (csV acc) j →
      ∃ v' m', r51_L0 call fuel base kp kx0 n v (sl rb N) (vi N) (vi j) m = kx0 v' m' ∧ Grow 2 b m' v' (csV (acc ++ (X.drop j).map cellAt)) N ∧ Keeps b m m'
  | 0, j, v, m, acc, _, _, hj, hn, _, _ => by omega
  | n + 1, j, v, m, acc, hb, hrow, hj, hn, hacc, hg => by
    rw [r51_L0_s]
    simp only [lss_nat, k1n]
    by_cases hlt : j < N
    · rw [decide_eq_true hlt]
      simp only [kb]
      rw [ix86 rb N N j hlt]
      simp only
      rw [rdB hrow (by omega)]
      simp only [h73, kc]
      have hXj : X.drop j = X.getD j 0 :: X.drop (j + 1) := by
        rw [List.drop_eq_getElem_cons (by omega)]
        simp [List.getD, List.getElem?_eq_getElem (show j < X.length by omega)]
      rw [hXj]
      generalize X.getD j 0 = c
      obtain ⟨v1, m1, hk, hg1, hk1⟩ := grow36 hg (by omega) hbb hb ((tz c % 8 : Nat) : Int) ((tz c / 8 : Nat) : Int) rfl
      have hg1' : Grow 2 b m1 v1 (csV (acc ++ [cellAt c])) (j + 1) := by
        simpa [csV, cV, cellAt, List.flatMap_append] using hg1
      obtain ⟨v2, m2, hr, hg2, hk2⟩ := loop51 call h73 fuel base b hbb kp kx0 hX hN hrb n (j + 1) v1 m1 (acc ++ [cellAt c]) (Nat.le_trans hb hk1.1) ((hk1.2 rb hrb).trans hrow) (by omega) (by omega) (by simp [hacc]) hg1'
      refine ⟨v2, m2, ?_, by simpa using hg2, hk1.trans hk2⟩
      rw [hk, add1 j (by omega)]
      exact hr
    · rw [decide_eq_false hlt, List.drop_eq_nil_of_le (by omega)]
      have hjN : j = N := by omega
      exact ⟨v, m, rfl, by simpa [hjN] using hg, Keeps.refl _ _⟩
theorem t51 (n base b : Nat) (hbb : base ≤ b) (s : B) (m : M) (hb : b ≤ m.length) : ∃ v' m', rt (n + 67) base 51 [vb s] m = some (.ret v', m') ∧ Grow 2 b m' v' (csV (listB s)) (listB s).length ∧ Keeps b m m' := by
  rw [rt_imp (f := 51) (rf := rf51) (by kernel_rfl) (by kernel_rfl) (by kernel_rfl) (n + 66) base]
  show ∃ v' m', r51 (rt (n + 66)) (n + 66) base (vb s) m = _ ∧ _
  unfold r51
  rw [vcall_fun]
  obtain ⟨v, m1, e1, g1, k1'⟩ := t75 n base b hbb s m hb
  rw [e1]
  simp only [kc]
  unfold listB
  rw [List.length_map]
  have hx64 := sing_len 64 s
  generalize sing 64 s = X at g1 hx64 ⊢
  rcases g1 with ⟨h1, rfl, _⟩ | ⟨rb, h1, hr1, rfl, hrow, _⟩
  · have hX : X = [] := List.eq_nil_of_length_eq_zero h1
    subst hX
    rw [len86n]
    simp only [k2]
    rw [show n + 66 = (n + 65) + 1 by omega, r51_L0_s, show (.int .i64 0 : Value) = vi ((0 : Nat) : Int) from rfl, show (vi 0 : Value) = vi ((0 : Nat) : Int) from rfl, lss_nat]
    exact ⟨.slice none 0 0, m1, by simp only [k1n, kb, Nat.lt_irrefl, decide_false, fVal_eq], .inl ⟨rfl, rfl, rfl⟩, k1'⟩
  · rw [len86]
    simp only [k2]
    rw [show (.int .i64 0 : Value) = vi ((0 : Nat) : Int) from rfl]
    have hrb : rb < m1.length := (List.getElem?_eq_some_iff.1 hrow).1
    obtain ⟨v2, m2, e2, g2, k2'⟩ := loop51 (rt (n + 66)) (fun base s m => t73 (n + 63) base s m) (n + 66) base m1.length (by have := k1'.1; omega) (fun v m => some (.pan v, m)) (fun y3_10 m => (fVal y3_10 fun v => some (.ret v, m))) (X := X) rfl hx64 hrb (n + 66) 0 (.slice none 0 0) m1 [] (Nat.le_refl _) hrow (by omega) (by omega) rfl (.inl ⟨rfl, rfl, rfl⟩)
    refine ⟨v2, m2, ?_, ?_, k1'.trans (k2'.mono (by have := k1'.1; omega))⟩
    · rw [e2, fVal_eq]
    · have g2' : Grow 2 m1.length m2 v2 (csV (X.map cellAt)) X.length := by simpa using g2
      rcases g2' with h | ⟨r, a1, a2, a3⟩
      · exact .inl h
      · exact .inr ⟨r, a1, by have := k1'.1; omega, a3⟩
end Go.AM
namespace Go.AM
open Go Go.Proofs
def orM (mate : List B) : List B → B → B
  | [], a => a
  | c :: cs, a => orM mate cs (a ||| mate.getD (tz c) 0)
def stepR (s : B) (mate : List B) (r : B) : B := orM mate (sing 64 (nbB r &&& s)) r
inductive Reach (s : B) (mate : List B) : B → B → Prop
  | refl (r : B) : Reach s mate r r
  | step {r R : B} (h : Reach s mate (stepR s mate r) R) : Reach s mate r R
theorem orM_sub (mate : List B) : ∀ (l : List B) (a : B) (i : Nat), a.getLsbD i = true → (orM mate l a).getLsbD i = true
  | [], a, i, h => h
  | c :: cs, a, i, h => orM_sub mate cs _ i (by rw [or_get, h]; rfl)
theorem loop50b (call : CallF) (h76 : ∀ base s m, call base 76 [vb s] m = some (.ret (vi (tz s)), m)) (fuel base : Nat) (kp : Value → M → Res2) (kx : Value → Value → Value → Value → M → Res2) (x0 x4 : Value) {m : M} {p rb N : Nat} {X mate : List B} (hX : X.length = N) (hN : N ≤ 64) (hnz : ∀ x ∈ X, x ≠ 0) (hb : m[rb]? = some (words X)) (hm : m[p]? = some (cellR (mate.map vb))) (hl : mate.length = 64) :
    ∀ (n j : Nat) (a : B), j ≤ N → N < n + j → r50_L2 call fuel base kp kx n x0 (pt p 0) x4 (vb a) (sl rb N) (vi N) (vi j) m = kx x0 (pt p 0) x4 (vb (orM mate (X.drop j) a)) m
  | 0, j, a, hj, hn => by omega
  | n + 1, j, a, hj, hn => by
    rw [r50_L2_s]
    simp only [lss_nat, k1n]
    by_cases hlt : j < N
    · rw [decide_eq_true hlt]
      simp only [kb]
      rw [ix86 rb N N j hlt]
      simp only
      rw [rdB hb (by omega)]
      simp only
      have hXj : X.drop j = X.getD j 0 :: X.drop (j + 1) := by
        rw [List.drop_eq_getElem_cons (by omega)]
        simp [List.getD, List.getElem?_eq_getElem (show j < X.length by omega)]
      have hcz : X.getD j 0 ≠ 0 := by
        refine hnz _ ?_
        simp [List.getD, List.getElem?_eq_getElem (show j < X.length by omega)]
      rw [h76]
      simp only [kc]
      rw [ix98 p _ (tz_lt hcz)]
      simp only
      rw [rdM hm hl (tz_lt hcz)]
      simp only [b_or]
      rw [hXj, add1 j (by omega)]
      exact loop50b call h76 fuel base kp kx x0 x4 hX hN hnz hb hm hl n (j + 1) _ (by omega) (by omega)
    · rw [decide_eq_false hlt, List.drop_eq_nil_of_le (by omega)]
      rfl
structure Cal50 (call : CallF) : Prop where
  h76 : ∀ base s m, call base 76 [vb s] m = some (.ret (vi (tz s)), m)
  h60 : ∀ base s m, call base 60 [vb s] m = some (.ret (vb (nbB s)), m)
  h75 : ∀ base b s m, base ≤ b → b ≤ m.length → ∃ v' m', call base 75 [vb s] m = some (.ret v', m') ∧ Grow 1 b m' v' ((sing 64 s).map vb) (sing 64 s).length ∧ Keeps b m m'
theorem loop50 (call : CallF) (hc : Cal50 call) (fuel base : Nat) (hf : 65 ≤ fuel) (kp : Value → M → Res2) (kr : Value → M → Res2) (s : B) {mate : List B} (hl : mate.length = 64) {p L : Nat} (hbL : base ≤ L) (hpL : p < L) :
    ∀ (n : Nat) (r : B) (m : M), unc r < n → L ≤ m.length → m[p]? = some (cellR (mate.map vb)) → ∃ R m', r50_L0 call fuel base kp kr n (vb s) (pt p 0) (vb r) m = kr (vb R) m' ∧ Reach s mate r R ∧ stepR s mate R = R
  | 0, r, m, hu, _, _ => by omega
  | n + 1, r, m, hu, hL, hm => by
    obtain ⟨v, m1, e1, g1, k1'⟩ := hc.h75 base m.length (nbB r &&& s) m (by omega) (Nat.le_refl _)
    have hm1 := (k1'.2 p (by omega)).trans hm
    have hL1 : L ≤ m1.length := Nat.le_trans hL k1'.1
    have inner : (k2 (vcalln E.P base m1 .len [86] [v]) fun v20_9 m => (r50_L2 call fuel base (fun v m => kp v m) (fun y0_18 y3_19 y4_20 y5_21 m => (k1n (mbin E .eql 58 y5_21 y4_20) fun v34_22 => (kb v34_22 (kr y4_20 m) (r50_L0 call fuel base kp kr n y0_18 y3_19 y5_21 m)))) fuel (vb s) (pt p 0) (vb r) (vb r) v v20_9 (.int .i64 0) m)) =
        (if stepR s mate r = r then kr (vb r) m1 else r50_L0 call fuel base kp kr n (vb s) (pt p 0) (vb (stepR s mate r)) m1) := by
      have fin : ∀ (X : List B), X = sing 64 (nbB r &&& s) → (k1n (mbin E .eql 58 (vb (orM mate X r)) (vb r)) fun v34_22 => (kb v34_22 (kr (vb r) m1) (r50_L0 call fuel base kp kr n (vb s) (pt p 0) (vb (orM mate X r)) m1))) =
          (if stepR s mate r = r then kr (vb r) m1 else r50_L0 call fuel base kp kr n (vb s) (pt p 0) (vb (stepR s mate r)) m1) := by
        intro X hX
        unfold stepR
        rw [← hX]
        simp only [b_eq, k1n]
        by_cases h : orM mate X r = r
        · rw [if_pos h, decide_eq_true h]; rfl
        · rw [if_neg h, decide_eq_false h]; rfl
      have hx64 := sing_len 64 (nbB r &&& s)
      have hnz := sing_nz 64 (nbB r &&& s)
      generalize hX : sing 64 (nbB r &&& s) = X at g1 hx64 hnz
      rcases g1 with ⟨h1, rfl, _⟩ | ⟨rb, h1, hr1, rfl, hrow, _⟩
      · have hX0 : X = [] := List.eq_nil_of_length_eq_zero h1
        subst hX0
        rw [len86n]
        simp only [k2]
        obtain ⟨f', rfl⟩ : ∃ f', fuel = f' + 1 := ⟨fuel - 1, by omega⟩
        rw [r50_L2_s, show (.int .i64 0 : Value) = vi ((0 : Nat) : Int) from rfl, show (vi 0 : Value) = vi ((0 : Nat) : Int) from rfl, lss_nat]
        simp only [k1n, kb, Nat.lt_irrefl, decide_false]
        exact fin [] hX.symm
      · rw [len86]
        simp only [k2]
        rw [show (.int .i64 0 : Value) = vi ((0 : Nat) : Int) from rfl, loop50b call hc.h76 fuel base _ _ _ _ (X := X) rfl hx64 hnz hrow hm1 hl fuel 0 r (by omega) (by omega), List.drop_zero]
        exact fin X hX.symm
    rw [r50_L0_s, hc.h60]
    simp only [kc, b_and]
    simp only [k1n]
    rw [e1]
    simp only
    have inner' := inner
    simp only [k1n] at inner'
    rw [inner']
    by_cases h : stepR s mate r = r
    · rw [if_pos h]
      exact ⟨r, m1, rfl, .refl r, h⟩
    · rw [if_neg h]
      have hsub : ∀ i, r.getLsbD i = true → (stepR s mate r).getLsbD i = true := fun i hi => orM_sub mate _ r i hi
      have hlt : unc (stepR s mate r) < unc r := by
        have : ∃ i, i < 64 ∧ r.getLsbD i = false ∧ (stepR s mate r).getLsbD i = true := by
          refine Classical.byContradiction fun hn => h (B_ext fun i hi => ?_)
          cases e : r.getLsbD i with
          | true => exact hsub i e
          | false =>
            cases e2 : (stepR s mate r).getLsbD i with
            | false => rfl
            | true => exact absurd ⟨i, hi, e, e2⟩ hn
        obtain ⟨i, hi, h1, h2⟩ := this
        exact unc_lt hsub hi h1 h2
      obtain ⟨R, m', e, hR, hS⟩ := loop50 call hc fuel base hf kp kr s hl hbL hpL n (stepR s mate r) m1 (by omega) hL1 hm1
      exact ⟨R, m', e, .step hR, hS⟩
theorem t50 (n base : Nat) (s : B) (m0 : M) : ∃ R, rt (n + 75) base 50 [vb s] m0 = some (.ret (vb R), m0) ∧ Reach s (pairB s) (low (aloneB s (pairB s))) R ∧ stepR s (pairB s) R = R := by
  suffices h : ∃ R m1, r50 (rt (n + 74)) (n + 74) m0.length (vb s) m0 = some (.ret (vb R), m1) ∧ Reach s (pairB s) (low (aloneB s (pairB s))) R ∧ stepR s (pairB s) R = R by
    obtain ⟨R, m1, h, h2⟩ := h
    exact ⟨R, rt_pure (f := 50) (rf := rf50) (by kernel_rfl) (by kernel_rfl) (by kernel_rfl) (n + 74) base _ m0 m1 _ h rfl, h2⟩
  generalize hL : m0.length = L
  unfold r50
  rw [k1_fun, fVal_fun, t71 (n + 1)]
  simp only [kc]
  rw [al98]
  simp only [k2]
  rw [hL, st98 (ds := (List.replicate 64 (0 : B)).map vb) (by rw [List.getElem?_append_right (by omega), hL]; simp) (Nat.le_refl _) (by simp [pairB_len]) (by simp) (vbs_one _)]
  simp only [ks]
  have hq : ((m0 ++ [cellR ((List.replicate 64 (0 : B)).map vb)]).set L (cellR ((pairB s).map vb)))[L]? = some (cellR ((pairB s).map vb)) := by
    rw [List.getElem?_set_self (by simp [hL])]
  have hlen : ((m0 ++ [cellR ((List.replicate 64 (0 : B)).map vb)]).set L (cellR ((pairB s).map vb))).length = L + 1 := by simp [hL]
  generalize (m0 ++ [cellR ((List.replicate 64 (0 : B)).map vb)]).set L (cellR ((pairB s).map vb)) = m1 at hq hlen
  rw [ld98 hq (by simp [pairB_len])]
  simp only [k1n]
  rw [t70 (n + 7) _ s _ (pairB_len s)]
  simp only
  rw [t72]
  simp only
  have hc : Cal50 (rt (n + 74)) := ⟨fun base s m => t76 (n + 72) base s m, fun base s m => t60 (n + 72) base s m, fun base b s m h1 h2 => t75 (n + 8) base b h1 s m h2⟩
  obtain ⟨R, m', e, h1, h2⟩ := loop50 (rt (n + 74)) hc (n + 74) L (by omega) (fun v m => some (.pan v, m)) (fun y2 m => some (.ret y2, m)) s (pairB_len s) (p := L) (L := L + 1) (by omega) (by omega) (n + 74) (low (aloneB s (pairB s))) m1 (by have := unc_le (low (aloneB s (pairB s))); omega) (by omega) hq
  exact ⟨R, m', e, h1, h2⟩
end Go.AM
namespace Go.AM
open Go Go.Proofs
open Go.AM.Kuhn hiding Run St
theorem Reach.inv {s : B} {mate : List B} {P : B → Prop} (hs : ∀ r, P r → P (stepR s mate r)) {r R : B} (h : Reach s mate r R) : P r → P R := by
  induction h with
  | refl => exact id
  | step _ ih => exact fun hp => ih (hs _ hp)
theorem orM_get {mate : List B} (ho : Ones mate) : ∀ (l : List Nat) (a : B) (i : Nat), (∀ w ∈ l, w < 64) → ((orM mate (l.map one) a).getLsbD i = true ↔ a.getLsbD i = true ∨ ∃ w, w ∈ l ∧ mt mate w = some i)
  | [], a, i, _ => by simp [orM]
  | w :: l, a, i, h => by
    have hw := h w (List.mem_cons_self ..)
    show (orM mate (l.map one) (a ||| mate.getD (tz (one w)) 0)).getLsbD i = true ↔ _
    rw [orM_get ho l _ i (fun x hx => h x (List.mem_cons_of_mem _ hx)), tz_one w hw, or_get, Bool.or_eq_true]
    have key : (mate.getD w 0).getLsbD i = true ↔ mt mate w = some i := by
      unfold mt
      rcases ho.get w with h0 | ⟨k, hk, h0⟩
      · rw [h0]; simp
      · rw [h0, if_neg (one_ne k hk), tz_one k hk, one_get _ _ hk, decide_eq_true_eq]
        simp [eq_comm]
    rw [key]
    constructor
    · rintro ((h1 | h1) | ⟨x, h1, h2⟩)
      · exact .inl h1
      · exact .inr ⟨w, List.mem_cons_self .., h1⟩
      · exact .inr ⟨x, List.mem_cons_of_mem _ h1, h2⟩
    · rintro (h1 | ⟨x, h1, h2⟩)
      · exact .inl (.inl h1)
      · rcases List.mem_cons.1 h1 with rfl | h3
        · exact .inl (.inr h2)
        · exact .inr ⟨x, h3, h2⟩
theorem stepR_get {s : B} {mate : List B} (ho : Ones mate) (r : B) (i : Nat) : (stepR s mate r).getLsbD i = true ↔ r.getLsbD i = true ∨ ∃ w, (nbB r &&& s).getLsbD w = true ∧ mt mate w = some i := by
  unfold stepR
  rw [sing_eq, orM_get ho _ _ _ (fun w hw => get_lt ((bitsL_mem _ w).1 hw))]
  simp only [bitsL_mem]
theorem mt_lt {mate : List B} (ho : Ones mate) {i j : Nat} (h : mt mate i = some j) : i < 64 := by
  unfold mt at h
  rcases Nat.lt_or_ge i 64 with h1 | h1
  · exact h1
  · rw [show mate.getD i 0 = 0 by simp [List.getD, List.getElem?_eq_none (show mate.length ≤ i by rw [ho.1]; exact h1)]] at h
    simp at h
/-- What a mate is. -/
theorem mate_facts {s : B} {D : Kuhn.St} (hI : Kuhn.Inv (NS s) (muP (pairB s)) (nuP (pairB s)) D (fun x => s.getLsbD x = true ∧ isBl x = true)) (ho : Ones (pairB s)) {i j : Nat} (e : mt (pairB s) i = some j) :
    s.getLsbD i = true ∧ s.getLsbD j = true ∧ adjB i j = true ∧ mt (pairB s) j = some i := by
  have hi64 := mt_lt ho e
  by_cases hb : isBl i = true
  · have hnu : nuP (pairB s) i = some j := by unfold nuP; rw [if_pos hb]; exact e
    have hmu := (hI.ok.cons i j).1 hnu
    obtain ⟨_, hsj, ha, _⟩ := hI.ok.edge j i hmu
    have hd := hI.only i (by rw [hnu]; simp)
    refine ⟨hd.1, hsj, ha, ?_⟩
    unfold muP at hmu
    split at hmu
    · simp at hmu
    · exact hmu
  · have hmu : muP (pairB s) i = some j := by unfold muP; rw [if_neg hb]; exact e
    have hnu := (hI.ok.cons j i).2 hmu
    obtain ⟨hj64, hsi, ha, bj⟩ := hI.ok.edge i j hmu
    have hd := hI.only j (by rw [hnu]; simp)
    refine ⟨hsi, hd.1, by rw [adj_symm i j hi64 hj64]; exact ha, ?_⟩
    unfold nuP at hnu
    rw [if_pos bj] at hnu
    exact hnu
theorem pc_bits (s : B) : pc s = (bitsL s).length := pc_len s
/-- The closure of a lone cell refuses. -/
theorem closure_refuses {s : B} {c0 : Nat} (hs0 : s.getLsbD c0 = true) (hc0 : mt (pairB s) c0 = none) {R : B} (hR : Reach s (pairB s) (one c0) R) (hS : stepR s (pairB s) R = R) :
    R.getLsbD c0 = true ∧ (∀ c, R.getLsbD c = true → s.getLsbD c = true ∧ isBl c = isBl c0) ∧ pc (nbB R &&& s) < pc R := by
  obtain ⟨D, hI, ho, hm⟩ := pair_inv s
  have h064 := get_lt hs0
  have col : ∀ {a b : Nat}, a < 64 → b < 64 → adjB a b = true → isBl a = !isBl b := fun ha hb h => adj_col _ _ ha hb h
  let G : Nat → Prop := fun c => if isBl c0 = true then ∀ w, NS s c w → D w else ¬ D c
  have hG0 : G c0 := by
    show if isBl c0 = true then ∀ w, NS s c0 w → D w else ¬ D c0
    by_cases hb : isBl c0 = true
    · rw [if_pos hb]
      exact (hI.each c0 ⟨hs0, hb⟩).resolve_left (fun h => h (by unfold nuP; rw [if_pos hb]; exact hc0))
    · rw [if_neg hb]
      intro hd
      obtain ⟨b, h1, _⟩ := hI.closed c0 hd
      unfold muP at h1
      rw [if_neg hb, hc0] at h1
      simp at h1
  have hP : R.getLsbD c0 = true ∧ ∀ c, R.getLsbD c = true → s.getLsbD c = true ∧ isBl c = isBl c0 ∧ G c := by
    refine Reach.inv (P := fun R => R.getLsbD c0 = true ∧ ∀ c, R.getLsbD c = true → s.getLsbD c = true ∧ isBl c = isBl c0 ∧ G c) ?_ hR ⟨by rw [one_get _ _ h064]; simp, fun c hc => ?_⟩
    · intro r ⟨h1, h2⟩
      refine ⟨(stepR_get ho r c0).2 (.inl h1), fun c hc => ?_⟩
      rcases (stepR_get ho r c).1 hc with h3 | ⟨w, h3, h4⟩
      · exact h2 c h3
      · rw [and_get, Bool.and_eq_true] at h3
        obtain ⟨h3, hsw⟩ := h3
        have hw64 := get_lt hsw
        obtain ⟨c', hc'64, hrc', hadj⟩ := (nb_one r w hw64).1 h3
        obtain ⟨_, hsc, ha, hback⟩ := mate_facts hI ho h4
        have hc64 := get_lt hsc
        obtain ⟨hsc', hcol', hg'⟩ := h2 c' hrc'
        have e1 := col hc'64 hw64 hadj
        have e2 := col hw64 hc64 ha
        have hcc : isBl c = isBl c0 := by rw [← hcol', e1, e2, Bool.not_not]
        refine ⟨hsc, hcc, ?_⟩
        show if isBl c0 = true then ∀ w, NS s c w → D w else ¬ D c
        change (if isBl c0 = true then ∀ w, NS s c' w → D w else ¬ D c') at hg'
        by_cases hb : isBl c0 = true
        · rw [if_pos hb] at hg' ⊢
          have hbc' : isBl c' = true := hcol'.trans hb
          have hbw : isBl w = false := by rw [hbc'] at e1; simpa using e1.symm
          have hDw := hg' w ⟨hc'64, hsw, hadj, hbc'⟩
          obtain ⟨b, h5, h6⟩ := hI.closed w hDw
          unfold muP at h5
          rw [hbw, if_neg (by simp), h4] at h5
          cases h5
          exact h6
        · rw [if_neg hb] at hg' ⊢
          intro hd
          have hbc' : isBl c' = false := by rw [hcol']; simpa using hb
          have hbc : isBl c = false := by rw [hcc]; simpa using hb
          have hbw : isBl w = true := by rw [hbc'] at e1; simpa using e1.symm
          obtain ⟨b, h5, h6⟩ := hI.closed c hd
          unfold muP at h5
          rw [hbc, if_neg (by simp), hback] at h5
          cases h5
          exact hg' (h6 c' ⟨hw64, hsc', by rw [adj_symm w c' hw64 hc'64]; exact hadj, hbw⟩)
    · rw [one_get _ _ h064, decide_eq_true_eq] at hc
      subst hc
      exact ⟨hs0, rfl, hG0⟩
  obtain ⟨hP1, hP2⟩ := hP
  refine ⟨hP1, fun c hc => ⟨(hP2 c hc).1, (hP2 c hc).2.1⟩, ?_⟩
  -- every neighbour has a mate, in R
  have hmate : ∀ w, (nbB R &&& s).getLsbD w = true → ∃ c, mt (pairB s) w = some c ∧ R.getLsbD c = true := by
    intro w hw
    have hw' := hw
    rw [and_get, Bool.and_eq_true] at hw
    obtain ⟨h3, hsw⟩ := hw
    have hw64 := get_lt hsw
    obtain ⟨c', hc'64, hrc', hadj⟩ := (nb_one R w hw64).1 h3
    obtain ⟨hsc', hcol', hg'⟩ := hP2 c' hrc'
    have e1 := col hc'64 hw64 hadj
    have hne : ∃ c, mt (pairB s) w = some c := by
      change (if isBl c0 = true then ∀ w, NS s c' w → D w else ¬ D c') at hg'
      by_cases hb : isBl c0 = true
      · rw [if_pos hb] at hg'
        have hbc' : isBl c' = true := hcol'.trans hb
        have hbw : isBl w = false := by rw [hbc'] at e1; simpa using e1.symm
        obtain ⟨b, h5, _⟩ := hI.closed w (hg' w ⟨hc'64, hsw, hadj, hbc'⟩)
        unfold muP at h5
        rw [hbw, if_neg (by simp)] at h5
        exact ⟨b, h5⟩
      · rw [if_neg hb] at hg'
        have hbc' : isBl c' = false := by rw [hcol']; simpa using hb
        have hbw : isBl w = true := by rw [hbc'] at e1; simpa using e1.symm
        cases e : mt (pairB s) w with
        | some c => exact ⟨c, rfl⟩
        | none =>
          have hall := (hI.each w ⟨hsw, hbw⟩).resolve_left (fun h => h (by unfold nuP; rw [if_pos hbw]; exact e))
          exact absurd (hall c' ⟨hw64, hsc', by rw [adj_symm w c' hw64 hc'64]; exact hadj, hbw⟩) hg'
    obtain ⟨c, hc⟩ := hne
    refine ⟨c, hc, ?_⟩
    rw [← hS]
    exact (stepR_get ho R c).2 (.inr ⟨w, hw', hc⟩)
  rw [pc_bits, pc_bits]
  have hnd : (c0 :: (bitsL (nbB R &&& s)).map fun w => (mt (pairB s) w).getD 0).Nodup := by
    rw [List.nodup_cons]
    constructor
    · intro hin
      obtain ⟨w, hw, e⟩ := List.mem_map.1 hin
      obtain ⟨c, hc, _⟩ := hmate w ((bitsL_mem _ w).1 hw)
      rw [hc] at e
      have := (mate_facts hI ho hc).2.2.2
      simp only [Option.getD_some] at e
      rw [e, hc0] at this
      simp at this
    · refine map_nodup (bitsL_nodup _) fun w hw w' hw' e => ?_
      obtain ⟨c, hc, _⟩ := hmate w ((bitsL_mem _ w).1 hw)
      obtain ⟨c', hc', _⟩ := hmate w' ((bitsL_mem _ w').1 hw')
      rw [hc, hc'] at e
      simp only [Option.getD_some] at e
      subst e
      have h1 := (mate_facts hI ho hc).2.2.2
      have h2 := (mate_facts hI ho hc').2.2.2
      rw [h1] at h2
      exact Option.some.inj h2
  have := nodup_len hnd (l' := bitsL R) (fun x hx => by
    rw [bitsL_mem]
    rcases List.mem_cons.1 hx with rfl | h
    · exact hP1
    · obtain ⟨w, hw, e⟩ := List.mem_map.1 h
      obtain ⟨c, hc, hcR⟩ := hmate w ((bitsL_mem _ w).1 hw)
      rw [hc] at e
      simp only [Option.getD_some] at e
      rw [← e]; exact hcR)
  rw [List.length_cons, List.length_map] at this
  omega
theorem cellAt_one (i : Nat) (h : i < 64) : cellB (cellAt (one i)).1 (cellAt (one i)).2 = one i := by
  unfold cellAt cellB
  rw [tz_one i h]
  simp only
  rw [if_pos (by omega)]
  congr 1
  omega
theorem one_nat (i : Nat) (h : i < 64) : (one i).toNat = 2 ^ i := by
  unfold one
  rw [BitVec.toNat_shiftLeft, Nat.shiftLeft_eq]
  have : 2 ^ i < 2 ^ 64 := Nat.pow_lt_pow_right (by omega) h
  rw [show (1#64).toNat = 1 from rfl, Nat.one_mul]
  exact Nat.mod_eq_of_lt this
theorem lt_one (g : B) (i : Nat) (h : i < 64) (hg : ∀ j, g.getLsbD j = true → j < i) : g.toNat < (one i).toNat := by
  rw [one_nat i h]
  refine Nat.lt_pow_two_of_testBit _ fun j hj => ?_
  cases e : g.toNat.testBit j with
  | false => rfl
  | true => have := hg j e; omega
theorem grp_list (s : B) : ∀ (l : List Nat) (g : B), (∀ i ∈ l, s.getLsbD i = true) → l.Pairwise (· < ·) → (∀ i ∈ l, ∀ j, g.getLsbD j = true → j < i) → ∃ g', grp s g (l.map fun i => cellAt (one i)) = some g' ∧ ∀ i, g'.getLsbD i = true ↔ g.getLsbD i = true ∨ i ∈ l
  | [], g, _, _, _ => ⟨g, rfl, fun i => by simp⟩
  | i :: l, g, h1, h2, h3 => by
    have hi := h1 i (List.mem_cons_self ..)
    have hi64 := get_lt hi
    rw [List.pairwise_cons] at h2
    show ∃ g', (if s &&& cellB (cellAt (one i)).1 (cellAt (one i)).2 = 0 then none else if (cellB (cellAt (one i)).1 (cellAt (one i)).2).toNat ≤ g.toNat then none else grp s (g ||| cellB (cellAt (one i)).1 (cellAt (one i)).2) (l.map fun i => cellAt (one i))) = some g' ∧ _
    have hlt := lt_one g i hi64 (h3 i (List.mem_cons_self ..))
    rw [cellAt_one i hi64, if_neg ((and_one hi64).2 hi), if_neg (by omega)]
    obtain ⟨g', e, hg⟩ := grp_list s l (g ||| one i) (fun x hx => h1 x (List.mem_cons_of_mem _ hx)) h2.2 (fun x hx j hj => by
      rw [or_get, one_get _ _ hi64, Bool.or_eq_true, decide_eq_true_eq] at hj
      rcases hj with hj | rfl
      · exact h3 x (List.mem_cons_of_mem _ hx) j hj
      · exact h2.1 x hx)
    refine ⟨g', e, fun x => ?_⟩
    rw [hg, or_get, one_get _ _ hi64, Bool.or_eq_true, decide_eq_true_eq, List.mem_cons, or_assoc]
theorem bitsL_sorted (s : B) : (bitsL s).Pairwise (· < ·) := List.Pairwise.filter _ List.pairwise_lt_range
theorem grp_listB (s R : B) (h : ∀ c, R.getLsbD c = true → s.getLsbD c = true) : grp s 0 (listB R) = some R := by
  unfold listB
  rw [sing_eq, List.map_map]
  obtain ⟨g', e, hg⟩ := grp_list s (bitsL R) 0 (fun i hi => h i ((bitsL_mem R i).1 hi)) (bitsL_sorted R) (fun i _ j hj => by rw [zero_get] at hj; simp at hj)
  have : g' = R := B_ext fun i _ => by
    rw [Bool.eq_iff_iff, hg, zero_get, bitsL_mem]; simp
  rw [this] at e
  exact e
/-- What refusalOf finds, refutes. -/
theorem refusal_ok {s R : B} (hn : aloneB s (pairB s) ≠ 0) (hR : Reach s (pairB s) (low (aloneB s (pairB s))) R) (hS : stepR s (pairB s) R = R) : refB s (listB R) = true ∧ R ≠ 0 := by
  obtain ⟨c0, h64, h1, h2, e⟩ := low_one hn
  rw [e] at hR
  obtain ⟨hs0, hc0⟩ := (aloneB_get s (pairB s) c0).1 h1
  obtain ⟨a1, a2, a3⟩ := closure_refuses hs0 hc0 hR hS
  refine ⟨?_, ne_of_get a1⟩
  unfold refB
  rw [grp_listB s R fun c hc => (a2 c hc).1]
  show refG s R = true
  unfold refG
  have : ¬ (R &&& blackB ≠ 0 ∧ R &&& ~~~blackB ≠ 0) := by
    rintro ⟨b1, b2⟩
    obtain ⟨i, hi, g1⟩ := B_ne b1
    obtain ⟨j, hj, g2⟩ := B_ne b2
    rw [and_get, bl_get i hi, Bool.and_eq_true] at g1
    rw [sub_get, bl_get j hj, Bool.and_eq_true, Bool.not_eq_true'] at g2
    have x1 := (a2 i g1.1).2
    have x2 := (a2 j g2.1).2
    rw [g1.2] at x1
    rw [g2.2] at x2
    rw [← x1] at x2
    simp at x2
  rw [if_neg this]
  exact decide_eq_true a3
theorem reach_zero {s : B} {mate : List B} {R : B} (hR : Reach s mate 0 R) : R = 0 := by
  refine Reach.inv (P := fun r => r = 0) (fun r hr => ?_) hR rfl
  subst hr
  unfold stepR
  have : nbB 0 &&& s = 0 := by
    rw [show nbB 0 = 0 by decide +kernel]; simp
  rw [this]
  rfl
/-- The first tiling is one. -/
def toDom (d : Nat × Bool) : Dom := (((d.1 % 8 : Nat) : Int), ((d.1 / 8 : Nat) : Int), d.2)
theorem doms_eq (l : List (Nat × Bool)) : domsV l = dsV (l.map toDom) := by
  unfold domsV dsV
  rw [List.flatMap_map]
  rfl
end Go.AM
namespace Go.AM
open Go Go.Proofs
def rowL (bs : ByteArray) (y : Nat) : Nat → Nat → B → B → Option (B × B)
  | 0, _, c, g => some (c, g)
  | k + 1, x, c, g => match bs[x]? with
    | none => none
    | some b => if b.toNat = 35 then rowL bs y k (x + 1) (c ||| cellB x y) g else if b.toNat = 46 then rowL bs y k (x + 1) c (g ||| cellB x y) else none
def rowsL (w : Nat) : List ByteArray → Nat → B → B → Option (B × B)
  | [], _, c, g => some (c, g)
  | bs :: l, y, c, g => if bs.size = w then (match rowL bs y w 0 c g with
      | none => none
      | some (c', g') => rowsL w l (y + 1) c' g') else none
abbrev mg (m0 : M) (z : List Value) (w h : Nat) (c g : B) : M := m0 ++ [cellR z, cellR [vi w, vi h, vb c, vb g]]
def reg0 : List Value := [vi 0, vi 0, vb 0, vb 0]
theorem len9 (base : Nat) (m : M) (s : ByteArray) : vcalln E.P base m .len [9] [.string s] = some (vi s.size, m) := by kernel_rfl
theorem idx9 (s : ByteArray) (j : Nat) : mindex E.P 9 (.string s) (vi j) = (s[j]?).map fun b => .int .u8 (b.toNat : Int) := by
  have e : mindex E.P 9 (.string s) (vi j) = if 0 ≤ (j : Int) then (s[(j : Int).toNat]?).map fun b => .int .u8 (b.toNat : Int) else none := by kernel_rfl
  rw [e, if_pos (by omega)]
  rfl
theorem eql5 (a : Nat) (b : Int) : mbin E .eql 5 (.int .u8 (a : Int)) (.int .u8 b) = some (.bool (decide ((a : Int) = b))) := by
  have e : mbin E .eql 5 (.int .u8 (a : Int)) (.int .u8 b) = some (.bool ((a : Int) == b)) := rfl
  rw [e]
  congr 2
theorem neq3 (a b : Nat) : mbin E .neq 3 (vi a) (vi b) = some (.bool (decide (a ≠ b))) := by
  have e : mbin E .neq 3 (vi a) (vi b) = some (.bool ((a : Int) != (b : Int))) := rfl
  rw [e]
  congr 2
  rw [Bool.eq_iff_iff]
  simp
  omega
theorem fa60 (p : Nat) : mfieldAddr E.P 60 (pt p 0) 0 = some (pt p 0) ∧ mfieldAddr E.P 60 (pt p 0) 2 = some (pt p 2) ∧ mfieldAddr E.P 60 (pt p 0) 3 = some (pt p 3) := by
  refine ⟨?_, ?_, ?_⟩ <;> kernel_rfl
theorem al60 (m : M) : xalloc E.P m 60 = some (pt m.length 0, m ++ [cellR reg0]) := by
  have e1 : xalloc E.P m 60 = xlen m fun n => xpush m (cellR reg0) fun m' => some (pt n 0, m') := by kernel_rfl
  rw [e1, xlen_eq, fNat_eq, xpush_eq, fList_eq]
theorem b60e : mbuild E.P 60 [] = some (.agg reg0.toArray) := by kernel_rfl
theorem b60 (w h : Int) : mbuild E.P 60 [(0, vi w), (1, vi h)] = some (.agg #[vi w, vi h, vb 0, vb 0]) := by kernel_rfl
theorem ld22c (m : M) (r off : Nat) : xload E.P m 9 (pt r off) = mcell m r off := by
  have e : xload E.P m 9 (pt r off) = xcell m r off := by kernel_rfl
  rw [e, xcell_eq]
theorem ix22 (p l c j : Nat) (h : j < l) : mindexAddr E.P 22 (.slice (some ⟨p, 0, none⟩) l c) (vi j) = some (pt p j) := by
  have e : mindexAddr E.P 22 (.slice (some ⟨p, 0, none⟩) l c) (vi j) = if 0 ≤ (j : Int) ∧ (j : Int) < l then some (.pointer (some ⟨p, 0 + ((j : Int)).toNat * 1, none⟩)) else none := by kernel_rfl
  rw [e, if_pos (by omega)]
  simp
theorem st60 (base : Nat) (m : M) (r : Nat) (hb : base ≤ r) (z z' : List Value) (hz : z.length = 4) (hz' : z'.length = 4) (ho : z'.all (·.oneCell') = true) (hr : m[r]? = some (cellR z)) : xstore E.P base m 60 (pt r 0) (.agg z'.toArray) = some (m.set r (cellR z')) := by
  have e3 : xstore E.P base m 60 (pt r 0) (.agg z'.toArray) = if z'.toArray.size = 4 then xwrite base m r 0 z'.toArray.toList else none := by kernel_rfl
  rw [e3, if_pos (by simpa using hz'), xwrite_eq]
  unfold mwrite
  rw [if_neg (by omega), hr, List.toList_toArray]
  have hle : 0 + z'.length ≤ (cellR z).cells.length := by show 0 + z'.length ≤ z.length; omega
  have hsp : splice (cellR z).cells 0 z' = z' := by
    unfold splice
    show List.take 0 z ++ z' ++ List.drop (0 + z'.length) z = z'
    rw [List.take_zero, List.nil_append, List.drop_eq_nil_of_le (by omega), List.append_nil]
  show (if (cellR z).ro = true then none else if 0 + z'.length ≤ (cellR z).cells.length then _ else none) = _
  rw [if_neg (by simp [cellR]), if_pos hle, if_pos ho, hsp, fList_eq, fList_eq]
  rfl
theorem st58f (base : Nat) (m : M) (r : Nat) (hb : base ≤ r) (k : Nat) (hk : k < 4) (z : List Value) (hz : z.length = 4) (x : B) (hr : m[r]? = some (cellR z)) : xstore E.P base m 58 (pt r k) (vb x) = some (m.set r (cellR (z.set k (vb x)))) := by
  rw [st58, mwrite_one hb hr rfl (by show k < z.length; omega) rfl]
  rfl
theorem r41_L0_s (call : CallF) (fuel base : Nat) (kr : Value → Value → M → Res2) (kx0 : Value → Value → M → Res2) (n : Nat) (x2 x4 x38 x39 x40 : Value) (m : M) : r41_L0 call fuel base kr kx0 (n + 1) x2 x4 x38 x39 x40 m =
    (k1n (mbin E .lss 3 x40 x39) fun v41_29 => (kb v41_29 (k1n (mindexAddr E.P 22 x38 x40) fun v43_30 => (k1n (xload E.P m 9 v43_30) fun v44_31 => (k2 (vcalln E.P base m .len [9] [v44_31]) fun v46_32 m => (k1n (mfieldAddr E.P 60 x4 0) fun v47_33 => (k1n (xload E.P m 3 v47_33) fun v48_34 => (k1n (mbin E .neq 3 v46_32 v48_34) fun v49_35 => (kb v49_35 (k1n (mbuild E.P 60 []) fun v50_36 => (ks (xstore E.P base m 60 x2 v50_36) fun m => (kr x2 (.bool false) m))) (k1n (mfieldAddr E.P 60 x4 0) fun v51_37 => (k1n (xload E.P m 3 v51_37) fun v52_38 => (r41_L2 call fuel base (fun y2_56 y3_57 m => (kr y2_56 y3_57 m)) (fun y2_58 y4_59 y38_60 y39_61 y40_62 m => (k1n (mbin E .add 3 y40_62 (.int .i64 1)) fun v79_63 => (r41_L0 call fuel base kr kx0 n y2_58 y4_59 y38_60 y39_61 v79_63 m))) fuel x2 x4 x40 v44_31 x38 x39 x40 v52_38 (.int .i64 0) m)))))))))) (kx0 x2 x4 m))) := by
  unfold r41_L0
  rw [k1_fun, vcall_fun]
theorem r41_L2_s (call : CallF) (fuel base : Nat) (kr : Value → Value → M → Res2) (kx2 : Value → Value → Value → Value → Value → M → Res2) (n : Nat) (x2 x4 x5 x6 x38 x39 x40 x52 x53 : Value) (m : M) : r41_L2 call fuel base kr kx2 (n + 1) x2 x4 x5 x6 x38 x39 x40 x52 x53 m =
    (k1n (mbin E .lss 3 x53 x52) fun v54_39 => (kb v54_39 (k1n (mindex E.P 9 x6 x53) fun v58_40 => (k1n (mbin E .eql 5 v58_40 (.int .u8 35)) fun v61_41 => (kb v61_41 (k1n (mfieldAddr E.P 60 x4 2) fun v62_42 => (k1n (xload E.P m 58 v62_42) fun v63_43 => (kc (kB m (call m.length 69 [x53, x5] m)) (fun v66_44 m => (k1n (mbin E .or 58 v63_43 v66_44) fun v67_45 => (k1n (mfieldAddr E.P 60 x4 2) fun v68_46 => (ks (xstore E.P base m 58 v68_46 v67_45) fun m => (k1n (mbin E .add 3 x53 (.int .i64 1)) fun v78_47 => (r41_L2 call fuel base kr kx2 n x2 x4 x5 x6 x38 x39 x40 x52 v78_47 m)))))) (fun _ _ => none)))) (k1n (mbin E .eql 5 v58_40 (.int .u8 46)) fun v70_48 => (kb v70_48 (k1n (mfieldAddr E.P 60 x4 3) fun v71_49 => (k1n (xload E.P m 58 v71_49) fun v72_50 => (kc (kB m (call m.length 69 [x53, x5] m)) (fun v75_51 m => (k1n (mbin E .or 58 v72_50 v75_51) fun v76_52 => (k1n (mfieldAddr E.P 60 x4 3) fun v77_53 => (ks (xstore E.P base m 58 v77_53 v76_52) fun m => (k1n (mbin E .add 3 x53 (.int .i64 1)) fun v78_54 => (r41_L2 call fuel base kr kx2 n x2 x4 x5 x6 x38 x39 x40 x52 v78_54 m)))))) (fun _ _ => none)))) (k1n (mbuild E.P 60 []) fun v59_55 => (ks (xstore E.P base m 60 x2 v59_55) fun m => (kr x2 (.bool false) m)))))))) (kx2 x2 x4 x38 x39 x40 m))) := by
  unfold r41_L2
  rw [k1_fun]
theorem mg_at (m0 : M) (z : List Value) (w h : Nat) (c g : B) : (mg m0 z w h c g)[m0.length + 1]? = some (cellR [vi w, vi h, vb c, vb g]) := by simp [mg]
theorem mg_z (m0 : M) (z : List Value) (w h : Nat) (c g : B) : (mg m0 z w h c g)[m0.length]? = some (cellR z) := by simp [mg]
theorem mg_lo (m0 : M) (z : List Value) (w h : Nat) (c g : B) {p : Nat} (hp : p < m0.length) : (mg m0 z w h c g)[p]? = m0[p]? := by simp [mg, List.getElem?_append_left hp]
theorem mg_set (m0 : M) (z : List Value) (w h : Nat) (c g : B) (w' h' : Nat) (c' g' : B) : (mg m0 z w h c g).set (m0.length + 1) (cellR [vi w', vi h', vb c', vb g']) = mg m0 z w' h' c' g' := by
  simp [mg, List.set_append]
theorem mg_setz (m0 : M) (z z' : List Value) (w h : Nat) (c g : B) : (mg m0 z w h c g).set m0.length (cellR z') = mg m0 z' w h c g := by
  simp [mg, List.set_append]
theorem loop41b (call : CallF) (hc : ∀ base x y m, call base 69 [vi x, vi y] m = some (.ret (vb (cellB x y)), m)) (fuel : Nat) (m0 : M) (kr : Value → Value → M → Res2) (kx : Value → Value → Value → Value → Value → M → Res2) (y : Nat) (bs : ByteArray) (w h : Nat) (hw : w ≤ 8) (hbs : bs.size = w) (z : List Value) (hz : z.length = 4) (x38 x39 x40 : Value) :
    ∀ (k n x : Nat) (c g : B), x + k = w → k < n →
      ∃ c2 g2, r41_L2 call fuel m0.length kr kx n (pt m0.length 0) (pt (m0.length + 1) 0) (vi y) (.string bs) x38 x39 x40 (vi w) (vi x) (mg m0 z w h c g) = match rowL bs y k x c g with
        | none => kr (pt m0.length 0) (.bool false) (mg m0 reg0 w h c2 g2)
        | some (c', g') => kx (pt m0.length 0) (pt (m0.length + 1) 0) x38 x39 x40 (mg m0 z w h c' g')
  | 0, n, x, c, g, hx, hn => by
    obtain ⟨n', rfl⟩ : ∃ n', n = n' + 1 := ⟨n - 1, by omega⟩
    rw [r41_L2_s]
    simp only [lss_nat, k1n]
    rw [decide_eq_false (by omega)]
    exact ⟨c, g, rfl⟩
  | k + 1, n, x, c, g, hx, hn => by
    obtain ⟨n', rfl⟩ : ∃ n', n = n' + 1 := ⟨n - 1, by omega⟩
    rw [r41_L2_s]
    simp only [lss_nat, k1n]
    rw [decide_eq_true (by omega : x < w)]
    simp only [kb]
    have hb : ∃ b, bs[x]? = some b := ⟨bs[x]'(by omega), by rw [getElem?_pos]⟩
    obtain ⟨b, hb⟩ := hb
    rw [idx9, hb]
    unfold rowL
    rw [hb]
    simp only [Option.map_some, eql5, (fa60 (m0.length + 1)).2.1, (fa60 (m0.length + 1)).2.2, ld58, hc, kB_same, kc]
    by_cases h1 : b.toNat = 35
    · rw [decide_eq_true (by omega : (b.toNat : Int) = 35), if_pos h1]
      simp only
      have e1 : mcell (mg m0 z w h c g) (m0.length + 1) 2 = some (vb c) := by unfold mcell; rw [mg_at]; rfl
      rw [e1]
      simp only [b_or]
      rw [st58f m0.length _ (m0.length + 1) (by omega) 2 (by omega) _ rfl _ (mg_at ..)]
      simp only [ks]
      rw [add1 x (by omega)]
      simp only
      have e2 : ([vi w, vi h, vb c, vb g] : List Value).set 2 (vb (c ||| cellB x y)) = [vi w, vi h, vb (c ||| cellB x y), vb g] := rfl
      rw [e2, mg_set]
      exact loop41b call hc fuel m0 kr kx y bs w h hw hbs z hz x38 x39 x40 k n' (x + 1) _ g (by omega) (by omega)
    · rw [decide_eq_false (by omega : ¬ (b.toNat : Int) = 35), if_neg h1]
      simp only
      by_cases h2 : b.toNat = 46
      · rw [decide_eq_true (by omega : (b.toNat : Int) = 46), if_pos h2]
        simp only
        have e1 : mcell (mg m0 z w h c g) (m0.length + 1) 3 = some (vb g) := by unfold mcell; rw [mg_at]; rfl
        rw [e1]
        simp only [b_or]
        rw [st58f m0.length _ (m0.length + 1) (by omega) 3 (by omega) _ rfl _ (mg_at ..)]
        simp only [ks]
        rw [add1 x (by omega)]
        simp only
        have e2 : ([vi w, vi h, vb c, vb g] : List Value).set 3 (vb (g ||| cellB x y)) = [vi w, vi h, vb c, vb (g ||| cellB x y)] := rfl
        rw [e2, mg_set]
        exact loop41b call hc fuel m0 kr kx y bs w h hw hbs z hz x38 x39 x40 k n' (x + 1) c _ (by omega) (by omega)
      · rw [decide_eq_false (by omega : ¬ (b.toNat : Int) = 46), if_neg h2]
        simp only [b60e]
        rw [st60 m0.length _ m0.length (Nat.le_refl _) z reg0 hz rfl rfl (mg_z ..)]
        simp only [ks]
        rw [mg_setz]
        exact ⟨c, g, rfl⟩
end Go.AM
namespace Go.AM
open Go Go.Proofs
/-- A slice of strings in memory. -/
def Strs (m : M) (v : Value) (l : List ByteArray) : Prop := (l = [] ∧ v = nilS) ∨ ∃ p row, v = sl p l.length ∧ m[p]? = some row ∧ row.cells = l.map Value.string
theorem strs_cell {m : M} {p : Nat} {row : Row} {l : List ByteArray} (h : m[p]? = some row) (hc : row.cells = l.map Value.string) {j : Nat} (hj : j < l.length) : mcell m p j = some (.string l[j]) := by
  unfold mcell
  rw [h]
  show row.cells[j]? = _
  rw [hc, List.getElem?_map, List.getElem?_eq_getElem hj]
  rfl
theorem loop41 (call : CallF) (hc : ∀ base x y m, call base 69 [vi x, vi y] m = some (.ret (vb (cellB x y)), m)) (fuel : Nat) (hf : 9 ≤ fuel) (m0 : M) (kr : Value → Value → M → Res2) (kx0 : Value → Value → M → Res2) {p N : Nat} {row : Row} {l : List ByteArray} (hp : m0[p]? = some row) (hrow : row.cells = l.map Value.string) (hl : l.length = N) (hN : N ≤ 8) (w h : Nat) (hw : w ≤ 8) (z : List Value) (hz : z.length = 4) :
    ∀ (n j : Nat) (c g : B), j ≤ N → N < n + j →
      ∃ c2 g2, r41_L0 call fuel m0.length kr kx0 n (pt m0.length 0) (pt (m0.length + 1) 0) (sl p N) (vi N) (vi j) (mg m0 z w h c g) = match rowsL w (l.drop j) j c g with
        | none => kr (pt m0.length 0) (.bool false) (mg m0 reg0 w h c2 g2)
        | some (c', g') => kx0 (pt m0.length 0) (pt (m0.length + 1) 0) (mg m0 z w h c' g')
  | 0, j, c, g, hj, hn => by omega
  | n + 1, j, c, g, hj, hn => by
    rw [r41_L0_s]
    simp only [lss_nat, k1n]
    by_cases hlt : j < N
    · rw [decide_eq_true hlt]
      simp only [kb]
      rw [ix22 p N N j hlt]
      simp only
      have hpl : p < m0.length := (List.getElem?_eq_some_iff.1 hp).1
      have hdrop : l.drop j = l[j]'(by omega) :: l.drop (j + 1) := List.drop_eq_getElem_cons (by omega)
      rw [ld22c, strs_cell (l := l) (by rw [mg_lo m0 z w h c g hpl]; exact hp) hrow (by omega), hdrop]
      generalize l[j]'(by omega) = bs
      simp only
      rw [len9]
      simp only [k2]
      rw [(fa60 (m0.length + 1)).1]
      simp only [ld3c]
      have e0 : mcell (mg m0 z w h c g) (m0.length + 1) 0 = some (vi w) := by unfold mcell; rw [mg_at]; rfl
      rw [e0]
      simp only [neq3]
      unfold rowsL
      by_cases hs : bs.size = w
      · rw [if_pos hs, decide_eq_false (fun h => h hs)]
        simp only
        rw [show (.int .i64 0 : Value) = vi ((0 : Nat) : Int) from rfl]
        obtain ⟨c2, g2, e⟩ := loop41b call hc fuel m0 (fun y2_56 y3_57 m => (kr y2_56 y3_57 m)) (fun y2_58 y4_59 y38_60 y39_61 y40_62 m => k1n (mbin E .add 3 y40_62 (.int .i64 1)) fun r => r41_L0 call fuel m0.length kr kx0 n y2_58 y4_59 y38_60 y39_61 r m) j bs w h hw hs z hz (sl p N) (vi N) (vi j) w fuel 0 c g (by omega) (by omega)
        simp only [k1n] at e
        cases hr : rowL bs j w 0 c g with
        | none =>
          rw [hr] at e
          exact ⟨c2, g2, e⟩
        | some cg =>
          obtain ⟨c', g'⟩ := cg
          rw [hr] at e
          simp only at e
          rw [e]
          simp only
          rw [add1 j (by omega)]
          exact loop41 call hc fuel hf m0 kr kx0 hp hrow hl hN w h hw z hz n (j + 1) c' g' (by omega) (by omega)
      · rw [if_neg hs, decide_eq_true hs]
        simp only [b60e]
        rw [st60 m0.length _ m0.length (Nat.le_refl _) z reg0 hz rfl rfl (mg_z ..)]
        simp only [ks]
        rw [mg_setz]
        exact ⟨c, g, rfl⟩
    · rw [decide_eq_false hlt, List.drop_eq_nil_of_le (by omega)]
      exact ⟨c, g, rfl⟩
/-- What read makes of a list of strings. -/
def readB (l : List ByteArray) : Option (Nat × Nat × B × B) := match l with
  | [] => none
  | b :: l' => if 8 < (b :: l').length then none else if b.size < 1 then none else if 8 < b.size then none else
    match rowsL b.size (b :: l') 0 0 0 with
    | none => none
    | some (c, g) => some (b.size, (b :: l').length, c, g)
def regV : Option (Nat × Nat × B × B) → Value
  | none => .tuple #[.agg reg0.toArray, .bool false]
  | some (w, h, c, g) => .tuple #[.agg #[vi w, vi h, vb c, vb g], .bool true]
theorem readB_cons (b : ByteArray) (l' : List ByteArray) : readB (b :: l') = if 8 < (b :: l').length then none else if b.size < 1 then none else if 8 < b.size then none else
    match rowsL b.size (b :: l') 0 0 0 with
    | none => none
    | some (c, g) => some (b.size, (b :: l').length, c, g) := rfl
theorem ld60 {m : M} {r : Nat} {a b c d : Value} (h : m[r]? = some (cellR [a, b, c, d])) : xload E.P m 60 (pt r 0) = some (.agg #[a, b, c, d]) := by
  have e : xload E.P m 60 (pt r 0) = (xread m r 0 4).map fun cs => .agg cs.toArray := by kernel_rfl
  rw [e, xread_eq]
  unfold mread
  rw [h]
  rfl
theorem ml60 {m : M} {r : Nat} {a b c d : Value} (h : m[r]? = some (cellR [a, b, c, d])) : mload E.P m 60 (pt r 0) = some (.agg #[a, b, c, d]) := by
  have e : mload E.P m 60 (pt r 0) = (mread m r 0 4).map fun cs => .agg cs.toArray := by kernel_rfl
  rw [e]
  unfold mread
  rw [h]
  rfl
theorem len22 (base : Nat) (m : M) (o l c : Nat) : vcalln E.P base m .len [22] [.slice (some ⟨o, 0, none⟩) l c] = some (vi l, m) := by kernel_rfl
theorem len22n (base : Nat) (m : M) : vcalln E.P base m .len [22] [nilS] = some (vi 0, m) := by kernel_rfl
theorem t41 (n base : Nat) (v : Value) (l : List ByteArray) (m0 : M) (hl0 : l.length ≤ 9223372036854775807) (hsz : ∀ b ∈ l, b.size ≤ 9223372036854775807) (hv : Strs m0 v l) : rt (n + 12) base 41 [v] m0 = some (.ret (regV (readB l)), m0) := by
  have hflat : ∀ o, vflat (regV o) = true := fun o => by
    cases o with
    | none => rfl
    | some x => rfl
  suffices h : ∃ m1, r41 (rt (n + 11)) (n + 11) m0.length v m0 = some (.ret (regV (readB l)), m1) by
    obtain ⟨m1, h⟩ := h
    exact rt_pure (f := 41) (rf := rf41) (by kernel_rfl) (by kernel_rfl) (by kernel_rfl) (n + 11) base _ m0 m1 _ h (hflat _)
  unfold r41
  rw [vcall_fun, k1_fun, show (.int .i64 1 : Value) = vi ((1 : Nat) : Int) from rfl, show (.int .i64 8 : Value) = vi ((8 : Nat) : Int) from rfl, show (.int .i64 0 : Value) = vi ((0 : Nat) : Int) from rfl]
  rw [al60]
  simp only [k2]
  have hz : (m0 ++ [cellR reg0])[m0.length]? = some (cellR reg0) := by simp
  have bad : (ks (xstore E.P m0.length (m0 ++ [cellR reg0]) 60 (pt m0.length 0) (.agg reg0.toArray)) fun m => (k0 (mload E.P m 60 (pt m0.length 0)) fun r_5 => (some (.ret (.tuple #[r_5, (.bool false)]), m)))) = some (.ret (regV none), m0 ++ [cellR reg0]) := by
    rw [st60 m0.length _ m0.length (Nat.le_refl _) reg0 reg0 rfl rfl rfl hz]
    simp only [ks]
    rw [show (m0 ++ [cellR reg0]).set m0.length (cellR reg0) = m0 ++ [cellR reg0] by simp [List.set_append]]
    rw [ml60 (a := vi 0) (b := vi 0) (c := vb 0) (d := vb 0) hz]
    rfl
  have bad' := bad
  simp only [ks, k0] at bad'
  have gtr_nat : ∀ i j : Nat, mbin E .gtr 3 (vi i) (vi j) = some (.bool (decide (j < i))) := fun i j => by
    rw [i_gtr, show decide ((j : Int) < (i : Int)) = decide (j < i) from decide_eq_decide.2 (by omega)]
  rcases hv with ⟨rfl, rfl⟩ | ⟨p, row, rfl, hr, hc⟩
  · rw [show readB [] = none from rfl, len22n]
    simp only
    rw [show (vi 0 : Value) = vi ((0 : Nat) : Int) from rfl, lss_nat]
    rw [decide_eq_true (by omega : 0 < 1)]
    simp only [k1n, kb, b60e]
    exact ⟨_, bad⟩
  · rw [len22]
    simp only [k1n, lss_nat]
    cases l with
    | nil =>
      rw [show readB [] = none from rfl]
      rw [decide_eq_true (by simp : ([] : List ByteArray).length < 1)]
      simp only [kb, b60e]
      exact ⟨_, bad⟩
    | cons b l' =>
      have hpl : p < m0.length := (List.getElem?_eq_some_iff.1 hr).1
      have hr1 : (m0 ++ [cellR reg0])[p]? = some row := by rw [List.getElem?_append_left hpl]; exact hr
      rw [decide_eq_false (by simp : ¬ (b :: l').length < 1)]
      simp only [kb]
      rw [len22]
      simp only [gtr_nat]
      rw [readB_cons]
      by_cases h1 : 8 < (b :: l').length
      · rw [decide_eq_true h1, if_pos h1]
        simp only [b60e]
        exact ⟨_, bad⟩
      · rw [decide_eq_false h1, if_neg h1]
        simp only
        rw [ix22 p _ _ 0 (by simp)]
        simp only
        rw [ld22c, strs_cell hr1 hc (j := 0) (by simp)]
        simp only [List.getElem_cons_zero, len9, lss_nat]
        by_cases h2 : b.size < 1
        · rw [decide_eq_true h2, if_pos h2]
          simp only [b60e]
          exact ⟨_, bad⟩
        · rw [decide_eq_false h2, if_neg h2]
          simp only
          rw [ld22c, strs_cell hr1 hc (j := 0) (by simp)]
          simp only [List.getElem_cons_zero, len9, gtr_nat]
          by_cases h3 : 8 < b.size
          · rw [decide_eq_true h3, if_pos h3]
            simp only [b60e]
            exact ⟨_, bad⟩
          · rw [decide_eq_false h3, if_neg h3]
            simp only
            rw [ld22c, strs_cell hr1 hc (j := 0) (by simp)]
            simp only [List.getElem_cons_zero, len9]
            rw [len22]
            simp only [b60, al60]
            have hlen : (m0 ++ [cellR reg0]).length = m0.length + 1 := by simp
            rw [hlen, st60 m0.length _ (m0.length + 1) (by omega) reg0 [vi b.size, vi (b :: l').length, vb 0, vb 0] rfl rfl rfl (by simp)]
            simp only [ks]
            rw [len22]
            simp only
            have hm : ((m0 ++ [cellR reg0]) ++ [cellR reg0]).set (m0.length + 1) (cellR [vi b.size, vi (b :: l').length, vb 0, vb 0]) = mg m0 reg0 b.size (b :: l').length 0 0 := by
              simp [mg, List.set_append]
            rw [hm]
            obtain ⟨c2, g2, e⟩ := loop41 (rt (n + 11)) (fun base x y m => t69 (n + 10) base x y m) (n + 11) (by omega) m0 (fun y2_64 y3_65 m => (k0 (mload E.P m 60 y2_64) fun r_66 => (some (.ret (.tuple #[r_66, y3_65]), m)))) (fun y2_67 y4_68 m => (k1n (xload E.P m 60 y4_68) fun v80_69 => (ks (xstore E.P m0.length m 60 y2_67 v80_69) fun m => (k0 (mload E.P m 60 y2_67) fun r_70 => (some (.ret (.tuple #[r_70, (.bool true)]), m)))))) hr hc rfl (by omega) b.size (b :: l').length (by omega) reg0 rfl (n + 11) 0 0 0 (by omega) (by omega)
            simp only [k1n, ks] at e
            rw [e, List.drop_zero]
            cases hcg : rowsL b.size (b :: l') 0 0 0 with
            | none =>
              simp only [k0]
              rw [ml60 (a := vi 0) (b := vi 0) (c := vb 0) (d := vb 0) (mg_z m0 reg0 b.size (b :: l').length c2 g2)]
              exact ⟨_, rfl⟩
            | some cg =>
              obtain ⟨c', g'⟩ := cg
              simp only
              rw [ld60 (mg_at ..)]
              simp only
              rw [st60 m0.length _ m0.length (Nat.le_refl _) reg0 [vi b.size, vi (b :: l').length, vb c', vb g'] rfl rfl rfl (mg_z ..)]
              simp only
              rw [mg_setz]
              simp only [k0]
              rw [ml60 (mg_z ..)]
              exact ⟨_, rfl⟩
end Go.AM
