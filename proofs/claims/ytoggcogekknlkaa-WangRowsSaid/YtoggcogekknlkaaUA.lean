import Derived.KernelRfl
import Derived.Laws.BytesArg
import Derived.Laws.StructEq
import Derived.Test.YtoggcogekknlkaaRows
import Derived.WalkKit
import Derived.Test.YtoggcogekknlkaaAmB
import Derived.Test.YtoggcogekknlkaaAmModel
import Derived.Test.YtoggcogekknlkaaAmOps5
import Derived.Test.YtoggcogekknlkaaAmOps6
import Derived.Test.YtoggcogekknlkaaAmCode
import Derived.Test.YtoggcogekknlkaaAmX
import Derived.Test.YtoggcogekknlkaaAmEq
import Derived.Test.YtoggcogekknlkaaRBase
import Derived.Test.YtoggcogekknlkaaR96
import Derived.Test.YtoggcogekknlkaaR128
import Derived.Test.YtoggcogekknlkaaAmS
import Derived.Test.YtoggcogekknlkaaS16
import Derived.Test.YtoggcogekknlkaaS17
import Derived.Test.YtoggcogekknlkaaWB
import Derived.Test.YtoggcogekknlkaaYH
import Derived.Test.YtoggcogekknlkaaSJ
set_option linter.unusedVariables false
set_option linter.unusedSimpArgs false
set_option linter.unusedSectionVars false
namespace Go.AM
open Go Go.Proofs
def FOk (F : Nat → Wg → Bool) (ts : List Wg) : Prop := ∀ i (h : i < ts.length), F i ts[i] = true
theorem FOk_snoc {F : Nat → Wg → Bool} {ts : List Wg} {t : Wg} : FOk F (ts ++ [t]) ↔ FOk F ts ∧ F ts.length t = true := by
  unfold FOk
  constructor
  · intro h
    refine ⟨fun i hi => ?_, ?_⟩
    · have := h i (by simp; omega)
      rwa [List.getElem_append_left hi] at this
    · have := h ts.length (by simp)
      rwa [List.getElem_append_right (Nat.le_refl _), List.getElem_singleton] at this
  · rintro ⟨h1, h2⟩ i hi
    by_cases h : i < ts.length
    · rw [List.getElem_append_left h]; exact h1 i h
    · have e : i = ts.length := by simp at hi; omega
      subst e
      rw [List.getElem_append_right (Nat.le_refl _), List.getElem_singleton]; exact h2
theorem rows_tsF {l : List Wg} (hcol : ∀ t ∈ l, colT t) (F : Nat → Wg → Bool) : ∀ (k x : Nat) (rs : List Rw), x + k ≤ 4 → (∀ r ∈ rs, ∃ ts, RowTs l x r ts ∧ FOk F ts) → (∀ ts, ts.length = x → (∀ t ∈ ts, t ∈ l) → Ch (fun _ => True) ts → FOk F ts → ∃ r ∈ rs, RowTs l x r ts) →
    (∀ r ∈ rowsX F l k x rs, ∃ ts, RowTs l (x + k) r ts ∧ FOk F ts) ∧ (∀ ts, ts.length = x + k → (∀ t ∈ ts, t ∈ l) → Ch (fun _ => True) ts → FOk F ts → ∃ r ∈ rowsX F l k x rs, RowTs l (x + k) r ts)
  | 0, x, rs, _, h1, h2 => ⟨h1, h2⟩
  | k + 1, x, rs, hx, h1, h2 => by
    have weak : ∀ {r : Rw} {t : Wg}, fitR F x r t = true → fitR allF x r t = true ∧ F x t = true := fun {r t} h => by
      unfold fitR at h
      rw [Bool.and_eq_true] at h
      refine ⟨?_, h.1⟩
      unfold fitR allF
      rw [h.2]
      rfl
    have := rows_tsF hcol F k (x + 1) (stepR F l x rs) (by omega) (fun r' hr' => by
      obtain ⟨r, hr, hin⟩ := mem_stepR.1 hr'
      obtain ⟨j, t, ht, hf, rfl⟩ := mem_inR hin
      obtain ⟨ts, hts, hF⟩ := h1 r hr
      refine ⟨_, more_ts hcol (by omega) hts ht (weak hf).1 j, FOk_snoc.2 ⟨hF, ?_⟩⟩
      rw [hts.1]; exact (weak hf).2) (fun ts hl hin hch hF => by
      have hne : ts ≠ [] := fun h => by subst h; simp at hl
      obtain ⟨ts', t, rfl⟩ : ∃ ts' t, ts = ts' ++ [t] := ⟨ts.dropLast, ts.getLast hne, (List.dropLast_concat_getLast hne).symm⟩
      obtain ⟨c1, _, c3⟩ := Ch_snoc.1 hch
      obtain ⟨f1, f2⟩ := FOk_snoc.1 hF
      obtain ⟨r, hr, hts⟩ := h2 ts' (by simpa using hl) (fun u hu => hin u (by simp [hu])) c1 f1
      have hl' : ts'.length = x := by simpa using hl
      have hf : fitR F x r t = true := by
        unfold fitR
        rw [hl'] at f2
        rw [f2, Bool.true_and, Bool.or_eq_true, decide_eq_true_eq, decide_eq_true_eq]
        by_cases h0 : x = 0
        · exact .inl h0
        · right
          have hne' : ts' ≠ [] := fun h => by subst h; simp at hl'; omega
          have hg := List.getLast?_eq_some_getLast hne'
          rw [hts.2.2.2.2.2 _ hg, c3 _ hg]
      obtain ⟨j, hj⟩ := inR_mem hf (i := 0) (hin t (by simp))
      exact ⟨_, mem_stepR.2 ⟨r, hr, hj⟩, more_ts hcol (by omega) hts (hin t (by simp)) (weak hf).1 j⟩)
    rw [show x + (k + 1) = x + 1 + k by omega]
    exact this
theorem rowsF_ts {l : List Wg} (hcol : ∀ t ∈ l, colT t) (F : Nat → Wg → Bool) {w : Nat} (hw : w ≤ 4) : (∀ r ∈ rowsX F l w 0 [zeroR], ∃ ts, RowTs l w r ts ∧ FOk F ts) ∧ (∀ ts, ts.length = w → (∀ t ∈ ts, t ∈ l) → Ch (fun _ => True) ts → FOk F ts → ∃ r ∈ rowsX F l w 0 [zeroR], RowTs l w r ts) := by
  have := rows_tsF hcol F w 0 [zeroR] (by omega) (fun r hr => by
    simp at hr
    subst hr
    exact ⟨[], ⟨rfl, by simp, trivial, rfl, rfl, by simp⟩, fun i h => by simp at h⟩) (fun ts hl _ _ _ => by
    have : ts = [] := List.length_eq_zero_iff.1 hl
    subst this
    exact ⟨zeroR, by simp, rfl, by simp, trivial, rfl, rfl, by simp⟩)
  rw [Nat.zero_add] at this
  exact this
/-- Tiles whose Norths are these. -/
def northF (nn : List Int) (x : Nat) (t : Wg) : Bool := decide (t.1 = nn.getD x 0)
theorem northF_ok {nn : List Int} {ts : List Wg} (h : ts.length = nn.length) : FOk (northF nn) ts ↔ nsO ts = nn := by
  unfold FOk northF
  constructor
  · intro hf
    refine List.ext_getElem (by simp [h]) fun i h1 h2 => ?_
    have h3 : i < ts.length := by simpa using h1
    have := hf i h3
    rw [decide_eq_true_eq, List.getD_eq_getElem?_getD, List.getElem?_eq_getElem h2] at this
    rw [List.getElem_map]
    exact this
  · rintro rfl i hi
    rw [decide_eq_true_eq, List.getD_eq_getElem?_getD, List.getElem?_eq_getElem (by simpa using hi), List.getElem_map]
    rfl
/-- The codes of the Souths of rows with given Norths are those of the specification's list. -/
theorem south_mem {l : List Wg} (hcol : ∀ t ∈ l, colT t) {nn : List Int} (h4 : nn.length ≤ 4) (z : Int) :
    z ∈ (rowsX (northF nn) l nn.length 0 [zeroR]).map (·.s) ↔ z ∈ (rfL l (fun x => some (nn.getD x 0)) nn.length [] 255).map (fun a => ((codeN 0 a : Nat) : Int)) := by
  obtain ⟨b1, b2⟩ := rowsF_ts hcol (northF nn) h4
  rw [List.mem_map, List.mem_map]
  constructor
  · rintro ⟨r, hr, rfl⟩
    obtain ⟨ts, hts, hF⟩ := b1 r hr
    have hns := (northF_ok hts.1).1 hF
    refine ⟨ssO ts, (mem_rfL hcol _ [] 255 _).2 ⟨ts, hts.1, hts.2.1, (Ch_255 hcol hts.2.1).2 hts.2.2.1, (NoOk_some nn ts 0 (by rw [Nat.zero_add, hts.1])).2 hns, rfl⟩, hts.2.2.2.2.1.symm⟩
  · rintro ⟨cs, hcs, rfl⟩
    obtain ⟨ts, a1, a2, a3, a4, a5⟩ := (mem_rfL hcol _ [] 255 _).1 hcs
    have a6 := (NoOk_some nn ts 0 (by rw [Nat.zero_add, a1])).1 a4
    obtain ⟨r, hr, hts⟩ := b2 ts a1 a2 ((Ch_255 hcol a2).1 a3) ((northF_ok a1).2 a6)
    refine ⟨r, hr, ?_⟩
    rw [hts.2.2.2.2.1, a5]
    rfl
theorem codeN_app : ∀ (a b : List Int) (c : Nat), codeN c (a ++ b) = codeN (codeN c a) b
  | [], _, _ => rfl
  | x :: a, b, c => by
    show codeN (c * 8 + x.toNat) (a ++ b) = _
    rw [codeN_app a b]
    rfl
theorem rfL_code (l : List Wg) (no : Nat → Option Int) : ∀ (k : Nat) (s : List Int) (e : Nat) (x : List Int), x ∈ rfL l no k s e → codeN 0 s * 8 ^ k ≤ codeN 0 x ∧ codeN 0 x < (codeN 0 s + 1) * 8 ^ k
  | 0, s, e, x, h => by
    simp only [rfL, List.mem_singleton] at h
    subst h
    omega
  | k + 1, s, e, x, h => by
    rw [rfL_succ, mem_gathF] at h
    obtain ⟨c, _, hc, h⟩ := h
    split at h
    · simp at h
    · have := rfL_code l no k _ _ x h
      rw [codeN_app, show codeN (codeN 0 s) [(c : Int)] = codeN 0 s * 8 + c from rfl] at this
      rw [Nat.pow_succ]
      have e1 : codeN 0 s * (8 ^ k * 8) = codeN 0 s * 8 * 8 ^ k := by rw [Nat.mul_comm (8 ^ k) 8, Nat.mul_assoc]
      have e2 : (codeN 0 s + 1) * (8 ^ k * 8) = (codeN 0 s * 8 + 8) * 8 ^ k := by rw [Nat.mul_comm (8 ^ k) 8, ← Nat.mul_assoc, Nat.add_mul]
      rw [e1, e2]
      have l1 : codeN 0 s * 8 * 8 ^ k ≤ (codeN 0 s * 8 + c) * 8 ^ k := Nat.mul_le_mul_right _ (by omega)
      have l2 : (codeN 0 s * 8 + c + 1) * 8 ^ k ≤ (codeN 0 s * 8 + 8) * 8 ^ k := Nat.mul_le_mul_right _ (by omega)
      omega
theorem gathF_pairU {α : Type} {R : α → α → Prop} {f : Nat → List α} (h1 : ∀ i, i < 8 → (f i).Pairwise R) (h2 : ∀ i j x y, i < j → j < 8 → x ∈ f i → y ∈ f j → R x y) : ∀ (n j : Nat), j + n ≤ 8 → (gathF f n j).Pairwise R
  | 0, j, _ => by simp [gathF]
  | n + 1, j, hj => by
    rw [gathF_succ, List.pairwise_append]
    refine ⟨h1 j (by omega), gathF_pairU h1 h2 n (j + 1) (by omega), fun x hx y hy => ?_⟩
    obtain ⟨i, a, b, c⟩ := mem_gathF.1 hy
    exact h2 j i x y (by omega) (by omega) hx c
theorem rfL_sorted (l : List Wg) (no : Nat → Option Int) : ∀ (k : Nat) (s : List Int) (e : Nat), (rfL l no k s e).Pairwise (fun a b => codeN 0 a < codeN 0 b)
  | 0, s, e => by simp [rfL]
  | k + 1, s, e => by
    rw [rfL_succ]
    refine gathF_pairU (fun i _ => ?_) (fun i j x y hij hj hx hy => ?_) 8 0 (by omega)
    · split
      · exact List.Pairwise.nil
      · exact rfL_sorted l no k _ _
    · split at hx
      · simp at hx
      · split at hy
        · simp at hy
        · have h1 := (rfL_code l no k _ _ x hx).2
          have h2 := (rfL_code l no k _ _ y hy).1
          rw [codeN_app, show codeN (codeN 0 s) [(i : Int)] = codeN 0 s * 8 + i from rfl] at h1
          rw [codeN_app, show codeN (codeN 0 s) [(j : Int)] = codeN 0 s * 8 + j from rfl] at h2
          have l1 : (codeN 0 s * 8 + i + 1) * 8 ^ k ≤ (codeN 0 s * 8 + j) * 8 ^ k := Nat.mul_le_mul_right _ (by omega)
          omega
/-- What Sort and Compact leave of the codes, as lists, is the specification's list. -/
theorem souths_eq {l : List Wg} (hcol : ∀ t ∈ l, colT t) {nn : List Int} (h4 : nn.length ≤ 4) {P : List Int} (hD : Dist ((rowsX (northF nn) l nn.length 0 [zeroR]).map (·.s)) P) :
    P = (rfL l (fun x => some (nn.getD x 0)) nn.length [] 255).map (fun a => ((codeN 0 a : Nat) : Int)) ∧ P.map (fun z => digN nn.length z.toNat) = rfL l (fun x => some (nn.getD x 0)) nn.length [] 255 := by
  have hP : P = (rfL l (fun x => some (nn.getD x 0)) nn.length [] 255).map (fun a => ((codeN 0 a : Nat) : Int)) := by
    refine dist_uniq hD.1 ?_ fun z => (hD.2 z).trans (south_mem hcol h4 z)
    rw [List.pairwise_map]
    exact (rfL_sorted l _ _ [] 255).imp fun h => by omega
  refine ⟨hP, ?_⟩
  rw [hP, List.map_map]
  refine (List.map_congr_left fun a ha => ?_).trans (List.map_id _)
  obtain ⟨ts, a1, a2, a3, a4, a5⟩ := (mem_rfL hcol _ [] 255 _).1 ha
  have hc : ∀ d ∈ a, col d := fun d hd => by
    rw [a5] at hd
    obtain ⟨u, hu, rfl⟩ := List.mem_map.1 (show d ∈ ssO ts from by simpa using hd)
    exact (hcol u (a2 u hu)).2.2.1
  have hl : a.length = nn.length := by rw [a5]; simp [a1]
  have hlt : codeN 0 a < 8 ^ nn.length := by
    have := codeN_lt a 0 0 hc (by simp)
    rwa [Nat.zero_add, hl] at this
  show digN nn.length (codeN 0 a : Int).toNat = a
  rw [Int.toNat_natCast]
  exact (codeN_inj _ _ (by rw [digN_len, hl]) (digN_col _ _) hc 0 0 (codeN_dig _ _ hlt)).2
end Go.AM
namespace Go.AM
open Go Go.Proofs
theorem SM.keeps {m m' : M} {ps N C : Nat} {Fs : Nat → Nat → Nat} (h : SM m ps N C Fs) (hk : Keeps m.length m m') : SM m' ps N C Fs :=
  ⟨(hk.2 _ (List.getElem?_eq_some_iff.1 h.hs).1).trans h.hs, fun i hi => (hk.2 _ (List.getElem?_eq_some_iff.1 (h.hv i hi)).1).trans (h.hv i hi)⟩
end Go.AM
namespace Go.AM
open Go Go.Proofs
theorem RM.push {g : Bool} {b : Nat} {m : M} {v : Value} {ls : List (List Int)} (h : RM g b m v ls) (x : List Row) : RM g b (m ++ x) v ls := h.keeps (Keeps.push _ _ (Nat.le_refl _) _)
/-- One list more; no cell is touched. -/
theorem RM.one {b base : Nat} {m : M} {v : Value} {ls : List (List Int)} (h : RM true b m v ls) (hbb : base ≤ b) (hbm : b ≤ m.length) (hl : ls.length ≤ 1000) {p n : Nat} {k : List Int} (hk : Ints m (sl p n) k) (hne : k ≠ []) :
    ∃ (r : Nat) (m' : M), (∀ K : Value → M → Res2, (k2 (xbuildSlice E.P m 23 1 [(0, sl p n)]) fun w m => k2 (vcalln E.P base m .append [23, 23] [v, w]) K) = K (sl r (ls.length + 1)) m') ∧ RM true b m' (sl r (ls.length + 1)) (ls ++ [k]) ∧ Keeps b m m' ∧ ∀ (i : Nat) (cs : List Value), m[i]? = some (cellR cs) → m'[i]? = some (cellR cs) := by
  have hw : (m ++ [rowz 1 true [sl p n]])[m.length]? = some (rowz 1 true [sl p n]) := by simp
  have hk1 : Ints (m ++ [rowz 1 true [sl p n]]) (sl p n) k := hk.app _
  rcases h with ⟨rfl, rfl⟩ | ⟨q, ex, us, b1, b2, rfl, b4, b5, b6, b7⟩
  · refine ⟨m.length + 1, (m ++ [rowz 1 true [sl p n]]) ++ [rowz 1 false [sl p n]], fun K => ?_, .inr ⟨m.length + 1, false, [sl p n], fun _ => rfl, by omega, by simp, by simp, by simp, by simp, fun j h1 h2 => ?_⟩, (Keeps.push _ _ hbm _).trans (Keeps.push _ _ (by simp; omega) _), fun i cs hi => ?_⟩
    · rw [show (sl p n : Value) = slo p 0 n n from rfl, gb23_1, k2s, ga23e, ga23nil base _ m.length 1 1 _ hw rfl (by omega) (by omega), k2s]
      simp [rowz]
    · have : j = 0 := by simp at h1; exact h1
      subst this
      exact ⟨hk1.app _, hne⟩
    · have := (List.getElem?_eq_some_iff.1 hi).1
      rw [List.getElem?_append_left (by simp; omega), List.getElem?_append_left this]
      exact hi
  · obtain rfl := b1 rfl
    have hql := (List.getElem?_eq_some_iff.1 b4).1
    have b4' : (m ++ [rowz 1 true [sl p n]])[q]? = some (rowz 1 false us) := by rw [List.getElem?_append_left hql]; exact b4
    have hsl : ∀ x ∈ us, ∃ a n c, x = Value.slice a n c := fun x hx => by
      obtain ⟨a, n, c, e⟩ := RM.us (g := true) b5 b7 x hx
      exact ⟨_, _, _, e⟩
    refine ⟨m.length + 1, (m ++ [rowz 1 true [sl p n]]).set q (rowz 1 false []) ++ [rowz 1 false (us ++ [sl p n])], fun K => ?_, .inr ⟨m.length + 1, false, us ++ [sl p n], fun _ => rfl, by omega, by simp, by simp, by simp [b5], by simp, fun j h1 h2 => ?_⟩, ((Keeps.push _ _ hbm _).trans (Keeps.set b _ q _ b2)).trans (Keeps.push b _ (by simp; omega) _), fun i cs hi => ?_⟩
    · rw [show (sl p n : Value) = slo p 0 n n from rfl, gb23_1, k2s, ga23e, ga23some base _ q ls.length m.length 1 1 false us _ b4' (by omega) (.inr b6) (by omega) (by omega) (by omega) (Nat.le_trans hbb b2) hw rfl rfl, k2s]
      simp [rowz]
    · by_cases hj : j < us.length
      · rw [List.getElem_append_left hj, List.getElem_append_left (by omega)]
        obtain ⟨c1, c2⟩ := b7 j hj (by omega)
        exact ⟨((c1.app _).kill c2 b4' hsl _).app _, c2⟩
      · have hj2 : j = us.length := by simp at h1; omega
        subst hj2
        have e1 : (us ++ [sl p n])[us.length] = sl p n := by simp
        have e2 : (ls ++ [k])[us.length] = k := by rw [List.getElem_append_right (by omega)]; simp
        rw [e1, e2]
        exact ⟨(hk1.kill hne b4' hsl _).app _, hne⟩
    · have hil := (List.getElem?_eq_some_iff.1 hi).1
      have hne2 : q ≠ i := by
        rintro rfl
        rw [b4] at hi
        simp [cellR, rowz] at hi
      rw [List.getElem?_append_left (by simp; omega), List.getElem?_set_ne hne2, List.getElem?_append_left hil]
      exact hi
theorem SM.app {m : M} {ps N C : Nat} {Fs : Nat → Nat → Nat} (h : SM m ps N C Fs) (x : List Row) : SM (m ++ x) ps N C Fs := h.keeps (Keeps.push _ _ (Nat.le_refl _) _)
end Go.AM
namespace Go.AM
open Go Go.Proofs
/-- The lists of ways: those from place p on are there. -/
structure WM (m : M) (po T C p : Nat) (F : Nat → Nat → Nat) : Prop where
  hs : m[po]? = some (rowz 1 true ((List.range (T + 1)).map fun j => if p ≤ j then sl (po + 1 + (T - j)) C else nilS))
  hv : ∀ j, p ≤ j → j ≤ T → VecM m (po + 1 + (T - j)) C (F j)
theorem WM.get {m : M} {po T C p : Nat} {F : Nat → Nat → Nat} (h : WM m po T C p F) {j : Nat} (h1 : p ≤ j) (h2 : j ≤ T) (K : Value → Res2) : (k1n (mindexAddr E.P 23 (sl po (T + 1)) (vi j)) fun a => k1n (xload E.P m 33 a) K) = K (sl (po + 1 + (T - j)) C) := by
  rw [ix23 _ _ _ _ (by omega), k1s, ld33]
  unfold mcell
  rw [h.hs]
  show k1n (((List.range (T + 1)).map fun j => if p ≤ j then (sl (po + 1 + (T - j)) C : Value) else nilS)[j]?) K = _
  rw [List.getElem?_map, List.getElem?_range (by omega)]
  show k1n (some (if p ≤ j then (sl (po + 1 + (T - j)) C : Value) else nilS)) K = _
  rw [if_pos h1]
  rfl
end Go.AM
namespace Go.AM
open Go Go.Proofs
theorem Tiles.at {m m' : M} {v : Value} {l : List Wg} (h : Tiles m v l) (hk : ∀ i, i < m.length → m'[i]? = m[i]?) : Tiles m' v l := by
  rcases h with h | ⟨p, off, c, row, h1, h2, h3, h4⟩
  · exact .inl h
  · exact .inr ⟨p, off, c, row, h1, h2, (hk p (List.getElem?_eq_some_iff.1 h3).1).trans h3, h4⟩
end Go.AM
namespace Go.AM
open Go Go.Proofs
theorem r36_L0_s (call : CallF) (fuel base : Nat) (kr : Value → M → Res2) (kx0 : M → Res2) (n : Nat) (x0 x1 x5 : Value) (m : M) : r36_L0 call fuel base kr kx0 (n + 1) x0 x1 x5 m =
    (k2 (vcalln E.P base m .len [23] [x0]) fun v13_4 m => (k1n (mbin E .lss 3 x5 v13_4) fun v14_5 => (kb v14_5 (k1n (mindexAddr E.P 23 x0 x5) fun v19_6 => (k1n (xload E.P m 33 v19_6) fun v20_7 => (k1n (mindexAddr E.P 23 x1 x5) fun v23_8 => (k1n (xload E.P m 33 v23_8) fun v24_9 => (kc (kB m (call m.length 24 [v20_7, v24_9] m)) (fun v25_10 m => (k1n (mun .not v25_10) fun v26_11 => (kb v26_11 (kr (.bool false) m) (k1n (mbin E .add 3 x5 (.int .i64 1)) fun v16_12 => (r36_L0 call fuel base kr kx0 n x0 x1 v16_12 m))))) (fun _ _ => none)))))) (kx0 m)))) := by
  unfold r36_L0
  rw [k1_fun, vcall_fun]
end Go.AM
namespace Go.AM
open Go Go.Proofs
theorem r83_L0_s (call : CallF) (fuel base : Nat) (kx0 : Value → Value → M → Res2) (n : Nat) (x3 x5 x15 x16 x17 : Value) (m : M) : r83_L0 call fuel base kx0 (n + 1) x3 x5 x15 x16 x17 m =
    (k1n (mbin E .lss 3 x17 x16) fun v18_6 => (kb v18_6 (k1n (mindexAddr E.P 74 x15 x17) fun v19_7 => (k1n (xload E.P m 109 v19_7) fun v20_8 => (k2 (xalloc E.P m 109) fun v7_9 m => (ks (xstore E.P base m 109 v7_9 v20_8) fun m => (k1n (mfieldAddr E.P 109 v7_9 2) fun v22_10 => (k1n (xload E.P m 3 v22_10) fun v23_11 => (k2 (xbuildSlice E.P m 33 1 [(0, v23_11)]) fun v24_12 m => (k2 (vcalln E.P base m .append [33, 33] [x5, v24_12]) fun v25_13 m => (k1n (mbin E .add 3 x17 (.int .i64 1)) fun v26_14 => (r83_L0 call fuel base kx0 n x3 v25_13 x15 x16 v26_14 m)))))))))) (kx0 x3 x5 m))) := by
  unfold r83_L0
  rw [k1_fun, vcall_fun]
theorem r83_L2_s (call : CallF) (fuel base : Nat) (kp : Value → M → Res2) (kx2 : Value → M → Res2) (n : Nat) (x3 x8 x30 x31 x32 : Value) (m : M) : r83_L2 call fuel base kp kx2 (n + 1) x3 x8 x30 x31 x32 m =
    (k1n (mbin E .lss 3 x32 x31) fun v33_20 => (kb v33_20 (k1n (mindexAddr E.P 33 x30 x32) fun v34_21 => (k1n (xload E.P m 3 v34_21) fun v35_22 => (k1n (xload E.P m 33 x3) fun v38_23 => (k2 (vcalln E.P base m .len [33] [v38_23]) fun v39_24 m => (kc (call base 107 [v35_22, v39_24] m) (fun v40_25 m => (k2 (xbuildSlice E.P m 23 1 [(0, v40_25)]) fun v41_26 m => (k2 (vcalln E.P base m .append [23, 23] [x8, v41_26]) fun v42_27 m => (k1n (mbin E .add 3 x32 (.int .i64 1)) fun v43_28 => (r83_L2 call fuel base kp kx2 n x3 v42_27 x30 x31 v43_28 m))))) (fun v m => kp v m)))))) (kx2 x8 m))) := by
  unfold r83_L2
  rw [k1_fun, vcall_fun]
theorem r13_L0_s (call : CallF) (fuel base : Nat) (kp : Value → M → Res2) (kr : Value → M → Res2) (kx0 : M → Res2) (n : Nat) (x0 x1 x5 x6 x7 : Value) (m : M) : r13_L0 call fuel base kp kr kx0 (n + 1) x0 x1 x5 x6 x7 m =
    (k1n (mbin E .lss 3 x7 (.int .i64 2)) fun v27_10 => (kb v27_10 (kc (call base 46 [x0, x1] m) (fun v33_11 m => (k1n (mextract 0 v33_11) fun v34_12 => (k1n (mextract 1 v33_11) fun v35_13 => (k1n (mbin E .neq 26 v35_13 x6) fun v38_14 => (kb v38_14 (kr (.bool false) m) (kc (call base 36 [v34_12, x5] m) (fun v42_15 m => (k1n (mun .not v42_15) fun v43_16 => (kb v43_16 (kr (.bool false) m) (r13_L2 call fuel base (fun y0_23 y1_24 y5_25 y6_26 y7_27 m => (k1n (mbin E .add 3 y7_27 (.int .i64 1)) fun v29_28 => (r13_L0 call fuel base kp kr kx0 n y0_23 y1_24 y5_25 y6_26 v29_28 m))) fuel x0 x1 x5 x6 x7 v34_12 (.int .i64 0) m)))) (fun v m => kp v m))))))) (fun v m => kp v m)) (kx0 m))) := by
  unfold r13_L0
  rw [k1_fun]
theorem r13_L2_s (call : CallF) (fuel base : Nat) (kx2 : Value → Value → Value → Value → Value → M → Res2) (n : Nat) (x0 x1 x5 x6 x7 x8 x10 : Value) (m : M) : r13_L2 call fuel base kx2 (n + 1) x0 x1 x5 x6 x7 x8 x10 m =
    (k2 (vcalln E.P base m .len [23] [x8]) fun v47_17 m => (k1n (mbin E .lss 3 x10 v47_17) fun v48_18 => (kb v48_18 (k1n (mindexAddr E.P 23 x8 x10) fun v53_19 => (k1n (xload E.P m 33 v53_19) fun v54_20 => (k1n (mindexAddr E.P 33 v54_20 (.int .i64 0)) fun v55_21 => (ks (xstore E.P base m 3 v55_21 (.int .i64 99)) fun m => (k1n (mbin E .add 3 x10 (.int .i64 1)) fun v50_22 => (r13_L2 call fuel base kx2 n x0 x1 x5 x6 x7 x8 v50_22 m)))))) (kx2 x0 x1 x5 x6 x7 m)))) := by
  unfold r13_L2
  rw [k1_fun, vcall_fun]
theorem bxsl (m : M) (p off l c : Nat) : xbox m (slo p off l c) = some (pt m.length 0, m ++ [cellR [slo p off l c]]) := by
  have e : xbox m (slo p off l c) = xlen m fun k => xpush m (cellR [slo p off l c]) fun m' => some (pt k 0, m') := by kernel_rfl
  rw [e, xlen_eq, fNat_eq, xpush_eq, fList_eq]
theorem bxI {m : M} {u : Value} {l : List Int} (h : Ints m u l) (hl : 1 ≤ l.length) : xbox m u = some (pt m.length 0, m ++ [cellR [u]]) := by
  rcases h with ⟨rfl, _⟩ | ⟨p, off, c, row, rfl, _⟩
  · simp at hl
  · exact bxsl m p off _ c
theorem get33 {m : M} {c : Nat} {v : Value} (hc : m[c]? = some (cellR [v])) (K : Value → Res2) : (k1n (xload E.P m 33 (pt c 0)) K) = K v := by
  rw [ld33, show mcell m c 0 = some v from box_cell hc 0 _ rfl, k1s]
theorem t113 (n base : Nat) {m : M} {q : Nat} {u : Value} {nn : List Int} (hq : m[q]? = some (cellR [u])) (hu : Ints m u nn) {x : Nat} (hx : x < nn.length) (t : Wg) : rt (n + 1) base 113 [vi x, tV t, pt q 0] m = some (.ret (.bool (northF nn x t)), m) := by
  refine rt_pure (f := 113) (rf := rf113) (by kernel_rfl) (by kernel_rfl) (by kernel_rfl) n base _ m (m ++ [cellR (tC t)]) _ ?_ rfl
  show r113 (rt n) n m.length (vi x) (tV t) (pt q 0) m = _
  unfold r113
  have hql := (List.getElem?_eq_some_iff.1 hq).1
  have hq1 : (m ++ [cellR (tC t)])[q]? = some (cellR [u]) := by rw [List.getElem?_append_left hql]; exact hq
  have hp1 : (m ++ [cellR (tC t)])[m.length]? = some (cellR (tC t)) := by simp
  rw [k1_fun, fVal_fun, show tV t = .agg #[vi t.1, vi t.2.1, vi t.2.2.1, vi t.2.2.2] from rfl, bxa4, k2s, ff45_0, k1s, ld3, show mcell (m ++ [cellR (tC t)]) m.length (0 + 0) = some (vi t.1) from box_cell hp1 _ _ rfl, k1s, get33 hq1, (hu.app _).getD hx, eql3, k1s]
  rfl
theorem kv113 (call : CallF) (base : Nat) (x t a : Value) (m : M) : kv call base (.func (.func 113) #[] #[a]) [x, t] m = call base 113 [x, t, a] m := by kernel_rfl
/-- Lists of w numbers, each in a row of its own, apart from that of the list. -/
def LM (B : Nat) (m : M) (v : Value) (w : Nat) (ls : List (List Int)) : Prop := (ls = [] ∧ v = nilS) ∨
  ∃ (q : Nat) (ps : List Nat), B ≤ q ∧ v = sl q ls.length ∧ m[q]? = some (rowz 1 false (ps.map fun p => sl p w)) ∧ ps.length = ls.length ∧ 1 ≤ ls.length ∧ ∀ j (h1 : j < ps.length) (h2 : j < ls.length), B ≤ ps[j] ∧ ps[j] ≠ q ∧ ls[j].length = w ∧ m[ps[j]]? = some (rowz 1 true (ls[j].map vi))
theorem LM.mats {B : Nat} {m : M} {v : Value} {w : Nat} {ls : List (List Int)} (h : LM B m v w ls) : Mats m v ls := by
  rcases h with ⟨rfl, rfl⟩ | ⟨q, ps, b1, b2, b3, b4, b5, b6⟩
  · exact .inl ⟨rfl, .inl rfl⟩
  · refine .inr ⟨q, 0, ls.length, _, b2, Nat.le_refl _, b3, rfl, ?_, fun j hj => ?_⟩
    · show 0 + ls.length ≤ (ps.map _).length
      rw [List.length_map]; omega
    · obtain ⟨_, _, c1, c2⟩ := b6 j (by omega) hj
      refine ⟨sl ps[j] w, ?_, ?_⟩
      · show (ps.map _)[0 + j]? = _
        rw [Nat.zero_add, List.getElem?_map, List.getElem?_eq_getElem (by omega)]
        rfl
      · have := ints_row (l := ls[j]) c2 rfl rfl
        rw [c1] at this
        exact this
theorem LM.one {b base w : Nat} {m : M} {v : Value} {ls : List (List Int)} (h : LM b m v w ls) (hbb : base ≤ b) (hbm : b ≤ m.length) (hl : ls.length ≤ 70000) {p : Nat} {k : List Int} (hp : b ≤ p) (hk : m[p]? = some (rowz 1 true (k.map vi))) (hkw : k.length = w) (hpv : ∀ n, v ≠ sl p n) :
    ∃ (r : Nat) (m' : M), (∀ K : Value → M → Res2, (k2 (xbuildSlice E.P m 23 1 [(0, sl p w)]) fun w m => k2 (vcalln E.P base m .append [23, 23] [v, w]) K) = K (sl r (ls.length + 1)) m') ∧ LM b m' (sl r (ls.length + 1)) w (ls ++ [k]) ∧ Keeps b m m' ∧ m.length ≤ r ∧ r < m'.length := by
  have hw : (m ++ [rowz 1 true [sl p w]])[m.length]? = some (rowz 1 true [sl p w]) := by simp
  have hpl := (List.getElem?_eq_some_iff.1 hk).1
  rcases h with ⟨rfl, rfl⟩ | ⟨q, us, b1, rfl, b4, b5, b6, b7⟩
  · refine ⟨m.length + 1, (m ++ [rowz 1 true [sl p w]]) ++ [rowz 1 false [sl p w]], fun K => ?_, .inr ⟨m.length + 1, [p], by omega, rfl, by simp, rfl, by simp, fun j h1 h2 => ?_⟩, (Keeps.push _ _ hbm _).trans (Keeps.push _ _ (by simp; omega) _), by omega, by simp⟩
    · rw [show (sl p w : Value) = slo p 0 w w from rfl, gb23_1, k2s, ga23e, ga23nil base _ m.length 1 1 _ hw rfl (by omega) (by omega), k2s]
      simp [rowz]
    · have : j = 0 := by simp at h1; exact h1
      subst this
      refine ⟨hp, show p ≠ m.length + 1 by omega, hkw, ?_⟩
      show ((m ++ [rowz 1 true [sl p w]]) ++ [rowz 1 false [sl p w]])[p]? = _
      rw [List.getElem?_append_left (by simp; omega), List.getElem?_append_left hpl]
      exact hk
  · have hql := (List.getElem?_eq_some_iff.1 b4).1
    have hpq : p ≠ q := fun e => hpv ls.length (by rw [e])
    have b4' : (m ++ [rowz 1 true [sl p w]])[q]? = some (rowz 1 false (us.map fun p => sl p w)) := by rw [List.getElem?_append_left hql]; exact b4
    have keep : ∀ i, i < m.length → i ≠ q → ((m ++ [rowz 1 true [sl p w]]).set q (rowz 1 false []) ++ [rowz 1 false ((us.map fun p => sl p w) ++ [sl p w])])[i]? = m[i]? := fun i hi hiq => by
      rw [List.getElem?_append_left (by simp; omega), List.getElem?_set_ne (Ne.symm hiq), List.getElem?_append_left hi]
    refine ⟨m.length + 1, (m ++ [rowz 1 true [sl p w]]).set q (rowz 1 false []) ++ [rowz 1 false ((us.map fun p => sl p w) ++ [sl p w])], fun K => ?_, .inr ⟨m.length + 1, us ++ [p], by omega, by simp, by simp, by simp [b5], by simp, fun j h1 h2 => ?_⟩, ((Keeps.push _ _ hbm _).trans (Keeps.set b _ q _ b1)).trans (Keeps.push b _ (by simp; omega) _), by omega, by simp⟩
    · rw [show (sl p w : Value) = slo p 0 w w from rfl, gb23_1, k2s, ga23e, ga23some base _ q ls.length m.length 1 1 false (us.map fun p => sl p w) _ b4' (by simp [b5]) (.inr b6) (by omega) (by omega) (by omega) (Nat.le_trans hbb b1) hw rfl rfl, k2s]
      simp [rowz]
    · by_cases hj : j < us.length
      · obtain ⟨c1, c2, c3, c4⟩ := b7 j hj (by omega)
        have hjl := (List.getElem?_eq_some_iff.1 c4).1
        rw [List.getElem_append_left hj, List.getElem_append_left (by omega)]
        refine ⟨c1, by omega, c3, ?_⟩
        rw [keep _ hjl c2]
        exact c4
      · have hj2 : j = us.length := by simp at h1; omega
        subst hj2
        have e1 : (us ++ [p])[us.length] = p := by simp
        have e2 : (ls ++ [k])[us.length] = k := by
          rw [List.getElem_append_right (by omega)]
          simp [b5]
        rw [e1, e2]
        refine ⟨hp, by omega, hkw, ?_⟩
        rw [keep _ hpl hpq]
        exact hk
theorem loop83a {n0 base : Nat} (kx : Value → Value → M → Res2) {m0 : M} (hbb : base ≤ m0.length) {rs : List Rw} {vr x3 : Value} (hR : RowsM m0 vr rs) (hrl : rs.length ≤ 65536) :
    ∀ (n i : Nat) (v : Value) (m : M), Keeps m0.length m0 m → Grow 1 m0.length m v ((rs.take i).map fun r => vi r.s) i → i ≤ rs.length → rs.length < n + i →
      ∃ v' m', r83_L0 (rt n0) n0 base kx n x3 v vr (vi rs.length) (vi i) m = kx x3 v' m' ∧ Keeps m0.length m0 m' ∧ Grow 1 m0.length m' v' (rs.map fun r => vi r.s) rs.length
  | 0, i, v, m, hk, hG, hi, hn => by omega
  | n + 1, i, v, m, hk, hG, hi, hn => by
    rw [r83_L0_s, lss_nat, k1s]
    by_cases hlt : i < rs.length
    · have hbm := hk.1
      rw [decide_eq_true hlt, kbt, (hR.keeps hk).get hlt, letR (Nat.le_trans hbb hbm)]
      have hp1 : (m ++ [cellR rs[i].cs])[m.length]? = some (cellR rs[i].cs) := by simp
      have hk1 : Keeps m0.length m0 (m ++ [cellR rs[i].cs]) := hk.trans (Keeps.push _ _ hbm _)
      rw [ff109_2, k1s, ld3, show mcell (m ++ [cellR rs[i].cs]) m.length (0 + 5) = some (vi rs[i].s) from box_cell hp1 _ _ rfl, k1s]
      obtain ⟨v1, m1, e1, g1, k1, _, _⟩ := gk33 (base := base) (hG.push [cellR rs[i].cs]) (by omega) hbb (Nat.le_trans hbm (by simp)) rs[i].s
      rw [e1, add1 i (by omega), k1s]
      have ht : (rs.take i).map (fun r => vi r.s) ++ [vi rs[i].s] = (rs.take (i + 1)).map fun r => vi r.s := by
        rw [List.take_add_one, List.getElem?_eq_getElem hlt, List.map_append]
        rfl
      rw [ht] at g1
      exact loop83a kx hbb hR hrl n (i + 1) v1 m1 (hk1.trans k1) g1 (by omega) (by omega)
    · have : i = rs.length := by omega
      subst this
      rw [decide_eq_false hlt, kbf]
      rw [List.take_length] at hG
      exact ⟨v, m, rfl, hk, hG⟩
theorem loop83b {n0 base w : Nat} (hn0 : 10 ≤ n0) (kp kx : Value → M → Res2) {m0 : M} (hbb : base ≤ m0.length) {q : Nat} {u vp : Value} {nn : List Int} {Q : List Nat} (hq : m0[q]? = some (cellR [u])) (hu : Ints m0 u nn) (hw : nn.length = w) (hw4 : w ≤ 4) (hP : Ints m0 vp (Q.map fun (z : Nat) => (z : Int))) (hQ : ∀ z ∈ Q, z ≤ 1000000) (hQl : Q.length ≤ 65536) :
    ∀ (n i : Nat) (v : Value) (m : M), Keeps m0.length m0 m → LM m0.length m v w ((Q.take i).map (digN w)) → i ≤ Q.length → Q.length < n + i →
      ∃ v' m', r83_L2 (rt (n0 + 1)) (n0 + 1) base kp kx n (pt q 0) v vp (vi Q.length) (vi i) m = kx v' m' ∧ Keeps m0.length m0 m' ∧ LM m0.length m' v' w (Q.map (digN w))
  | 0, i, v, m, hk, hG, hi, hn => by omega
  | n + 1, i, v, m, hk, hG, hi, hn => by
    rw [r83_L2_s, lss_nat, k1s]
    by_cases hlt : i < Q.length
    · have hbm := hk.1
      have hq1 : m[q]? = some (cellR [u]) := (hk.2 q (List.getElem?_eq_some_iff.1 hq).1).trans hq
      rw [decide_eq_true hlt, kbt, (hP.keeps hk).get (by simpa using hlt), get33 hq1, (hu.keeps hk).len, k2s, hw]
      obtain ⟨m1, e1, h1, k1⟩ := t107 n0 base w Q[i] (by omega) (by omega) (hQ _ (List.getElem_mem hlt)) (Nat.le_trans hbb hbm)
      rw [List.getElem_map, e1, kcs]
      have k01 : Keeps m0.length m m1 := k1.mono hbm
      have hk1 : Keeps m0.length m0 m1 := hk.trans k01
      have hG1 : LM m0.length m1 v w ((Q.take i).map (digN w)) := by
        rcases hG with h | ⟨a, ps, b1, b2, b3, b4, b5, b6⟩
        · exact .inl h
        · refine .inr ⟨a, ps, b1, b2, (k1.2 a (List.getElem?_eq_some_iff.1 b3).1).trans b3, b4, b5, fun j h1 h2 => ?_⟩
          obtain ⟨c1, c2, c3, c4⟩ := b6 j h1 h2
          exact ⟨c1, c2, c3, (k1.2 _ (List.getElem?_eq_some_iff.1 c4).1).trans c4⟩
      have hne : ∀ n, v ≠ sl m.length n := fun n e => by
        rcases hG with ⟨_, h⟩ | ⟨a, ps, b1, b2, b3, _⟩
        · rw [h] at e; simp at e
        · have := (List.getElem?_eq_some_iff.1 b3).1
          rw [b2] at e
          simp at e
      obtain ⟨r, m2, e2, g2, k2, r1, r2⟩ := hG1.one hbb hk1.1 (by simp; omega) hbm h1 (digN_len _ _) hne
      rw [e2, add1 i (by omega), k1s]
      have ht : (Q.take i).map (digN w) ++ [digN w Q[i]] = (Q.take (i + 1)).map (digN w) := by
        rw [List.take_add_one, List.getElem?_eq_getElem hlt, List.map_append]
        rfl
      rw [ht] at g2
      exact loop83b hn0 kp kx hbb hq hu hw hw4 hP hQ hQl n (i + 1) _ m2 (hk1.trans k2) g2 (by omega) (by omega)
    · have : i = Q.length := by omega
      subst this
      rw [decide_eq_false hlt, kbf]
      rw [List.take_length] at hG
      exact ⟨v, m, rfl, hk, hG⟩
/-- The lists of Souths of rows with these Norths. -/
abbrev southL (l : List Wg) (nn : List Int) : List (List Int) := rfL l (fun x => some (nn.getD x 0)) nn.length [] 255
theorem LM.weak {b b' : Nat} {m : M} {v : Value} {w : Nat} {ls : List (List Int)} (h : LM b m v w ls) (hb : b' ≤ b) : LM b' m v w ls := by
  rcases h with h | ⟨a, ps, b1, b2, b3, b4, b5, b6⟩
  · exact .inl h
  · exact .inr ⟨a, ps, by omega, b2, b3, b4, b5, fun j h1 h2 => ⟨by have := (b6 j h1 h2).1; omega, (b6 j h1 h2).2⟩⟩
theorem t83 (n0 base : Nat) (hn0 : 140000 ≤ n0) {m : M} (hbb : base ≤ m.length) {v0 u : Value} {l : List Wg} (hT : Tiles m v0 l) (hl : l.length ≤ 16) (hcol : ∀ t ∈ l, colT t) {nn : List Int} (hu : Ints m u nn) (h1 : 1 ≤ nn.length) (h4 : nn.length ≤ 4) :
    ∃ v' m', rt (n0 + 3) base 83 [v0, u] m = some (.ret v', m') ∧ LM m.length m' v' nn.length (southL l nn) ∧ Keeps m.length m m' := by
  rw [rt_imp (f := 83) (rf := rf83) (by kernel_rfl) (by kernel_rfl) (by kernel_rfl) (n0 + 2) base]
  show ∃ v' m', r83 (rt (n0 + 2)) (n0 + 2) base v0 u m = _ ∧ _
  unfold r83
  have hk0 : Keeps m.length m (m ++ [cellR [u]]) := Keeps.push _ _ (Nat.le_refl _) _
  have hq0 : (m ++ [cellR [u]])[m.length]? = some (cellR [u]) := by simp
  have hu0 := hu.keeps hk0
  rw [k1_fun, fVal_fun, vcall_fun, bxI hu h1, k2s, get33 hq0, hu0.len, k2s]
  obtain ⟨vr, m1, e1, k1, hR, hrl⟩ := t92 n0 base nn.length (m := m ++ [cellR [u]]) (Nat.le_trans hbb (by simp)) (hT.keeps hk0) hl (by omega) (fv := .func (.func 113) #[] #[pt m.length 0]) (fits := northF nn) (fun x m' t hx hk' => by
    have hq' : m'[m.length]? = some (cellR [u]) := (hk'.2 _ (by simp)).trans hq0
    rw [kv113]
    exact t113 n0 base hq' (hu0.keeps hk') hx t) h4
  have h16 : 16 ^ nn.length ≤ 65536 := Nat.le_trans (Nat.pow_le_pow_right (by omega) h4) (by decide)
  rw [e1, kcs, hR.len, k2s, i0]
  have hb1 : base ≤ m1.length := Nat.le_trans (Nat.le_trans hbb (by simp)) k1.1
  obtain ⟨v2, m2, e2, k2, g2⟩ := loop83a (n0 := n0 + 2) (base := base) (fun y3_15 y5_16 m => (kc (rt (n0 + 2) base 109 [y5_16] m) (fun v28_17 m => (kc (rt (n0 + 2) base 110 [y5_16] m) (fun v30_18 m => (k2 (vcalln E.P base m .len [33] [v30_18]) fun v31_19 m => (r83_L2 (rt (n0 + 2)) (n0 + 2) base (fun v m => some (.pan v, m)) (fun y8_29 m => (some (.ret y8_29, m))) (n0 + 2) y3_15 (.slice none 0 0) v30_18 v31_19 (vi ((0 : Nat) : Int)) m))) (fun v m => some (.pan v, m)))) (fun v m => some (.pan v, m)))) hb1 (vr := vr) (x3 := pt m.length 0) hR (by omega) (n0 + 2) 0 nilS m1 (Keeps.refl _ _) (.inl ⟨rfl, rfl, rfl⟩) (Nat.zero_le _) (by omega)
  rw [e2]
  have hmap : (rowsX (northF nn) l nn.length 0 [zeroR]).map (fun r => vi r.s) = ((rowsX (northF nn) l nn.length 0 [zeroR]).map (·.s)).map vi := by rw [List.map_map]; rfl
  rw [hmap] at g2
  have hlen : ((rowsX (northF nn) l nn.length 0 [zeroR]).map (·.s)).length = (rowsX (northF nn) l nn.length 0 [zeroR]).length := by simp
  rw [← hlen] at g2
  obtain ⟨m3, m4, up, P, e3, e4, hP, hD, k3, hPl, _⟩ := sortC (n0 + 2) base g2 (Nat.le_trans hb1 (Nat.le_refl _)) (by omega) (by omega)
  rw [e3, kcs, e4, kcs, hP.len, k2s]
  obtain ⟨q1, q2⟩ := souths_eq hcol h4 hD
  have q1' : P = ((southL l nn).map (codeN 0)).map fun (z : Nat) => (z : Int) := by rw [q1, List.map_map]; rfl
  have hQl : ((southL l nn).map (codeN 0)).length = P.length := by rw [q1']; simp
  have hk4 : Keeps m1.length m1 m4 := k2.trans k3
  have hkk : Keeps (m ++ [cellR [u]]).length (m ++ [cellR [u]]) m4 := k1.trans (hk4.mono k1.1)
  have hq4 : m4[m.length]? = some (cellR [u]) := (hkk.2 _ (by simp)).trans hq0
  rw [q1'] at hP
  obtain ⟨v5, m5, e5, k5, g5⟩ := loop83b (n0 := n0 + 1) (base := base) (w := nn.length) (by omega) (fun v m => some (.pan v, m)) (fun y8_29 m => (some (.ret y8_29, m))) (m0 := m4) (Nat.le_trans hb1 hk4.1) hq4 (hu0.keeps hkk) rfl h4 hP (fun z hz => by
    obtain ⟨a, ha, rfl⟩ := List.mem_map.1 hz
    have := (rfL_code l _ _ [] 255 a ha).2
    have h8 : 8 ^ nn.length ≤ 4096 := Nat.le_trans (Nat.pow_le_pow_right (by omega) h4) (by decide)
    have e0 : codeN 0 ([] : List Int) = 0 := rfl
    rw [e0] at this
    omega) (by omega) (n0 + 2) 0 nilS m4 (Keeps.refl _ _) (.inl ⟨by simp, rfl⟩) (Nat.zero_le _) (by omega)
  rw [← hQl]
  refine ⟨v5, m5, e5, ?_, hk0.trans ((hkk.mono (by simp)).trans (k5.mono (Nat.le_trans (by simp) hkk.1)))⟩
  have hfin : ((southL l nn).map (codeN 0)).map (digN nn.length) = southL l nn := by
    rw [q1', List.map_map, List.map_map] at q2
    rw [List.map_map]
    exact q2
  rw [hfin] at g5
  exact g5.weak (Nat.le_trans (by simp) hkk.1)
end Go.AM
namespace Go.AM
open Go Go.Proofs
theorem loop36g (n0 base : Nat) (kr : Value → M → Res2) (kx : M → Res2) {m : M} {u v : Value} {b : List (List Int)} (hu : Mats m u b) (hv : Mats m v b) (hb : b.length ≤ 100000) (hr : ∀ r ∈ b, r.length ≤ 1000 ∧ r.length < n0) :
    ∀ (n j : Nat), j ≤ b.length → b.length < n + j → r36_L0 (rt (n0 + 1)) (n0 + 1) base kr kx n u v (vi j) m = kx m
  | 0, j, hj, hn => by omega
  | n + 1, j, hj, hn => by
    rw [r36_L0_s, hu.len, k2s, lss_nat, k1s]
    by_cases hlt : j < b.length
    · obtain ⟨x, hx1, hx2⟩ := hu.get hlt
      obtain ⟨y, hy1, hy2⟩ := hv.get hlt
      have hl := hr _ (List.getElem_mem hlt)
      rw [decide_eq_true hlt, kbt, hx2, hy2, t24 n0 _ hx1 hy1 hl.1 hl.2, kB_same, kcs, not4, k1s, Bool.not_true, kbf, add1 j (by omega), k1s]
      exact loop36g n0 base kr kx hu hv hb hr n (j + 1) (by omega) (by omega)
    · rw [decide_eq_false hlt, kbf]
theorem t36g (n0 base : Nat) {m : M} {u v : Value} {b : List (List Int)} (hu : Mats m u b) (hv : Mats m v b) (hb : b.length ≤ 100000) (hb2 : b.length < n0) (hr : ∀ r ∈ b, r.length ≤ 1000 ∧ r.length < n0) : rt (n0 + 2) base 36 [u, v] m = some (.ret (.bool true), m) := by
  refine rt_pure (f := 36) (rf := rf36) (by kernel_rfl) (by kernel_rfl) (by kernel_rfl) (n0 + 1) base _ m m _ ?_ rfl
  show r36 (rt (n0 + 1)) (n0 + 1) m.length u v m = _
  unfold r36
  rw [fVal_fun, k1_fun, vcall_fun, hu.len, k2s, hv.len, k2s, neq3, k1s, decide_eq_true rfl, Bool.not_true, kbf, i0, loop36g n0 _ _ _ hu hv hb hr (n0 + 1) 0 (Nat.zero_le _) (by omega)]
/-- May Rows be asked? -/
def rowE (l : List Wg) (nn : List Int) : Bool := isS l && (sizeOk nn.length && !(nn.any badc))
theorem rowE_facts {l : List Wg} {nn : List Int} (h : rowE l nn = true) : isS l = true ∧ 1 ≤ nn.length ∧ nn.length ≤ 4 ∧ ∀ d ∈ nn, col d := by
  unfold rowE sizeOk at h
  simp only [Bool.and_eq_true, decide_eq_true_eq, Bool.not_eq_true', List.any_eq_false] at h
  obtain ⟨h1, ⟨h2, h3⟩, h4⟩ := h
  refine ⟨h1, by omega, by omega, fun d hd => ?_⟩
  have := h4 d hd
  unfold badc at this
  simp only [Bool.or_eq_true, decide_eq_true_eq, not_or] at this
  unfold col; omega
theorem t46 (n0 base : Nat) (hn0 : 140000 ≤ n0) {m : M} (hbb : base ≤ m.length) {v0 u : Value} {l : List Wg} (hT : Tiles m v0 l) {nn : List Int} (hu : Ints m u nn) (hnl : nn.length ≤ 1000) :
    ∃ v' m', rt (n0 + 4) base 46 [v0, u] m = some (.ret (.tuple #[v', vi (if rowE l nn then 0 else 2)]), m') ∧ LM m.length m' v' nn.length (if rowE l nn then southL l nn else []) ∧ Keeps m.length m m' := by
  rw [rt_imp (f := 46) (rf := rf46) (by kernel_rfl) (by kernel_rfl) (by kernel_rfl) (n0 + 3) base]
  show ∃ v' m', r46 (rt (n0 + 3)) (n0 + 3) base v0 u m = _ ∧ _
  have hbad : ∀ b : Bool, rowE l nn = b → b = false → ∃ (v' : Value) (m' : M), some (Ret.ret (.tuple #[(.slice none 0 0), (.int .i64 2)]), m) = some (.ret (.tuple #[v', vi (if rowE l nn then 0 else 2)]), m') ∧ LM m.length m' v' nn.length (if rowE l nn then southL l nn else []) ∧ Keeps m.length m m' := fun b h1 h2 => by
    rw [h1, h2]
    exact ⟨nilS, m, rfl, .inl ⟨rfl, rfl⟩, Keeps.refl _ _⟩
  unfold r46
  rw [k1_fun, vcall_fun, t48 (n0 + 2) _ (by omega) hT, kcs, not4, k1s]
  cases hS : isS l with
  | false =>
    rw [Bool.not_false, kbt]
    exact hbad _ rfl (by unfold rowE; rw [hS]; rfl)
  | true =>
    rw [Bool.not_true, kbf, hu.len, k2s, t80 (n0 + 2), kcs, not4, k1s]
    cases hZ : sizeOk (nn.length : Int) with
    | false =>
      rw [Bool.not_false, kbt]
      exact hbad _ rfl (by unfold rowE; rw [hS, hZ]; rfl)
    | true =>
      rw [Bool.not_true, kbf, t81 (n0 + 1) _ hu (by omega) (by omega) 82 badc (fun c base => t82 n0 base c _), kcs]
      cases hA : nn.any badc with
      | true =>
        rw [kbt]
        exact hbad _ rfl (by unfold rowE; rw [hS, hZ, hA]; rfl)
      | false =>
        have hE : rowE l nn = true := by unfold rowE; rw [hS, hZ, hA]; rfl
        obtain ⟨_, h1, h4, _⟩ := rowE_facts hE
        obtain ⟨_, hl16, hcol⟩ := isS_facts hS
        obtain ⟨v', m', e1, g1, k1⟩ := t83 n0 base hn0 hbb hT hl16 hcol hu h1 h4
        rw [kbf, e1, kcs, hE, if_pos rfl, if_pos rfl]
        exact ⟨v', m', rfl, g1, k1⟩
theorem loop45g (n0 base : Nat) (kp : Value → M → Res2) (kr : Value → Value → M → Res2) (kx : Value → Value → M → Res2) (x0 : Value) {m : M} {v : Value} {nn : List Int} (hv : Ints m v nn) (hl : nn.length ≤ 1000) :
    ∀ (n j : Nat), j ≤ nn.length → nn.length < n + j → r45_L0 (rt (n0 + 1)) (n0 + 1) base kp kr kx n x0 v (vi j) m = if (nn.drop j).any badc then kr nilS (.int .i64 2) m else kx x0 v m
  | 0, j, hj, hn => by omega
  | n + 1, j, hj, hn => by
    rw [r45_L0_s, hv.len, k2s, lss_nat, k1s]
    by_cases hlt : j < nn.length
    · rw [decide_eq_true hlt, kbt, hv.get hlt, t58, kcs, not4, k1s, Bool.not_not, List.drop_eq_getElem_cons hlt, List.any_cons]
      cases badc nn[j] with
      | true => rw [kbt]; rfl
      | false =>
        rw [kbf, add1 j (by omega), k1s]
        exact loop45g n0 base kp kr kx x0 hv hl n (j + 1) (by omega) (by omega)
    · rw [decide_eq_false hlt, kbf, List.drop_eq_nil_of_le (by omega)]
      rfl
theorem t45g (n : Nat) (base : Nat) (hn : 1300 ≤ n) {m : M} (hbb : base ≤ m.length) {v0 v : Value} {l : List Wg} (hT : Tiles m v0 l) {nn : List Int} (hv : Ints m v nn) (hnl : nn.length ≤ 1000) :
    ∃ v' m', rt (n + 3) base 45 [v0, v] m = some (.ret (.tuple #[v', vi (if rowE l nn then 0 else 2)]), m') ∧ RM false m.length m' v' (if rowE l nn then southL l nn else []) ∧ Keeps m.length m m' := by
  cases hE : rowE l nn with
  | true =>
    obtain ⟨hS, h1, h4, hc⟩ := rowE_facts hE
    obtain ⟨_, hl16, hcol⟩ := isS_facts hS
    obtain ⟨v', m', e1, e2, e3⟩ := t45 n base (by omega) hbb hT hS hl16 hcol hv h1 h4 hc
    exact ⟨v', m', e1, e2, e3⟩
  | false =>
    refine ⟨nilS, m, ?_, .inl ⟨rfl, rfl⟩, Keeps.refl _ _⟩
    rw [rt_imp (f := 45) (rf := rf45) (by kernel_rfl) (by kernel_rfl) (by kernel_rfl) (n + 2) base]
    show r45 (rt (n + 2)) (n + 2) base v0 v m = _
    unfold r45
    rw [k1_fun, vcall_fun, t25 (n + 1) _ (by omega) hT, kcs, not4, k1s]
    cases hS : isS l with
    | false => rfl
    | true =>
      rw [Bool.not_true, kbf, hv.len, k2s, t52, kcs, not4, k1s]
      cases hZ : sizeOk (nn.length : Int) with
      | false => rfl
      | true =>
        have hA : nn.any badc = true := by
          unfold rowE at hE
          rw [hS, hZ, Bool.true_and, Bool.true_and] at hE
          simpa using hE
        rw [Bool.not_true, kbf, i0, loop45g (n + 1) base _ _ _ v0 hv hnl (n + 2) 0 (Nat.zero_le _) (by omega), List.drop_zero, hA]
        rfl
theorem mcell_row {m : M} {q j : Nat} {row : Row} {v : Value} (h : m[q]? = some row) (hv : row.cells[j]? = some v) : mcell m q j = some v := by
  unfold mcell
  rw [h]
  exact hv
/-- The first number of each list is written over. -/
theorem loop13b (call : CallF) (fuel base : Nat) (kx : Value → Value → Value → Value → Value → M → Res2) (x0 x1 x5 x6 x7 : Value) {B w q N : Nat} {ps : List Nat} (hbb : base ≤ B) (hw : 1 ≤ w) (hps : ps.length = N) (hB : ∀ j (h : j < ps.length), B ≤ ps[j] ∧ ps[j] ≠ q) (hN : N ≤ 100000) :
    ∀ (n i : Nat) (m : M), m[q]? = some (rowz 1 false (ps.map fun p => sl p w)) → (∀ j (h : j < ps.length), ∃ cs, m[ps[j]]? = some (rowz 1 true cs) ∧ cs.length = w) → i ≤ N → N < n + i →
      ∃ m', r13_L2 call fuel base kx n x0 x1 x5 x6 x7 (sl q N) (vi i) m = kx x0 x1 x5 x6 x7 m' ∧ Keeps B m m'
  | 0, i, m, hq, hr, hi, hn => by omega
  | n + 1, i, m, hq, hr, hi, hn => by
    rw [r13_L2_s, len23, k2s, lss_nat, k1s]
    by_cases hlt : i < N
    · obtain ⟨cs, hc, hcl⟩ := hr i (by omega)
      obtain ⟨b1, b2⟩ := hB i (by omega)
      rw [decide_eq_true hlt, kbt, ix23 _ _ _ _ hlt, k1s, ld33, show mcell m q i = some (sl ps[i] w) from mcell_row hq (by show (ps.map _)[i]? = _; rw [List.getElem?_map, List.getElem?_eq_getElem (by omega)]; rfl), k1s]
      rw [show (.int .i64 0 : Value) = vi (0 : Nat) from rfl, ix33 _ _ _ _ hw, k1s, show (.int .i64 99 : Value) = vi 99 from rfl, st3, mwrite_one (Nat.le_trans hbb b1) hc rfl (by show 0 < cs.length; omega) rfl, kss, add1 i (by omega), k1s]
      obtain ⟨m', e1, k1⟩ := loop13b call fuel base kx x0 x1 x5 x6 x7 hbb hw hps hB hN n (i + 1) (m.set ps[i] { rowz 1 true cs with cells := cs.set 0 (vi 99) }) (by rw [List.getElem?_set_ne b2]; exact hq) (fun j hj => by
        by_cases e : ps[j] = ps[i]
        · refine ⟨cs.set 0 (vi 99), ?_, by simpa using hcl⟩
          rw [e, List.getElem?_set_self (List.getElem?_eq_some_iff.1 hc).1]
          rfl
        · obtain ⟨cs', h1, h2⟩ := hr j hj
          exact ⟨cs', by rw [List.getElem?_set_ne (Ne.symm e)]; exact h1, h2⟩) (by omega) (by omega)
      exact ⟨m', e1, (Keeps.set B m _ _ b1).trans k1⟩
    · rw [decide_eq_false hlt, kbf]
      exact ⟨m, rfl, Keeps.refl _ _⟩
theorem LM.parts {B : Nat} {m : M} {v : Value} {w : Nat} {ls : List (List Int)} (h : LM B m v w ls) (hne : ls ≠ []) : ∃ (q : Nat) (ps : List Nat), v = sl q ls.length ∧ B ≤ q ∧ ps.length = ls.length ∧ m[q]? = some (rowz 1 false (ps.map fun p => sl p w)) ∧ (∀ j (h : j < ps.length), B ≤ ps[j] ∧ ps[j] ≠ q) ∧ (∀ j (h : j < ps.length), ∃ cs, m[ps[j]]? = some (rowz 1 true cs) ∧ cs.length = w) := by
  rcases h with ⟨h, _⟩ | ⟨q, ps, b1, b2, b3, b4, b5, b6⟩
  · exact absurd h hne
  · refine ⟨q, ps, b2, b1, b4, b3, fun j hj => ?_, fun j hj => ?_⟩
    · obtain ⟨c1, c2, _⟩ := b6 j hj (by omega)
      exact ⟨c1, c2⟩
    · obtain ⟨_, _, c3, c4⟩ := b6 j hj (by omega)
      exact ⟨_, c4, by simpa using c3⟩
theorem south_len (l : List Wg) (nn : List Int) : (southL l nn).length ≤ 8 ^ nn.length := rfL_len l _ _ [] 255
theorem rowE_len (l : List Wg) (nn : List Int) : (if rowE l nn then southL l nn else []).length ≤ 4096 ∧ ∀ r ∈ (if rowE l nn then southL l nn else []), r.length ≤ 4 := by
  cases h : rowE l nn with
  | false => exact ⟨by simp, by simp⟩
  | true =>
    obtain ⟨_, _, h4, _⟩ := rowE_facts h
    rw [if_pos rfl]
    refine ⟨Nat.le_trans (south_len l nn) (Nat.le_trans (Nat.pow_le_pow_right (by omega) h4) (by decide)), fun r hr => ?_⟩
    have := rfL_mem l _ _ _ _ r hr
    simp at this
    omega
theorem loop13 (n0 base : Nat) (hn0 : 140000 ≤ n0) (kp kr : Value → M → Res2) (kx : M → Res2) {m0 : M} (hbb : base ≤ m0.length) {x0 x1 x5 : Value} {l : List Wg} {nn : List Int} (hT : Tiles m0 x0 l) (hu : Ints m0 x1 nn) (hnl : nn.length ≤ 1000) (h5 : Mats m0 x5 (if rowE l nn then southL l nn else [])) :
    ∀ (n i : Nat) (m : M), Keeps m0.length m0 m → i ≤ 2 → 2 < n + i →
      ∃ m', r13_L0 (rt (n0 + 4)) (n0 + 4) base kp kr kx n x0 x1 x5 (vi (if rowE l nn then 0 else 2)) (vi i) m = kx m' ∧ Keeps m0.length m0 m'
  | 0, i, m, hk, hi, hn => by omega
  | n + 1, i, m, hk, hi, hn => by
    rw [r13_L0_s, show (.int .i64 2 : Value) = vi (2 : Nat) from rfl, lss_nat, k1s]
    by_cases hlt : i < 2
    · obtain ⟨v, m1, e1, g1, k1⟩ := t46 n0 base hn0 (Nat.le_trans hbb hk.1) (hT.keeps hk) (hu.keeps hk) hnl
      have hk1 : Keeps m0.length m0 m1 := hk.trans (k1.mono hk.1)
      obtain ⟨hl1, hl2⟩ := rowE_len l nn
      rw [decide_eq_true hlt, kbt, e1, kcs, ex20, k1s, ex21, k1s, neq26, k1s, decide_eq_true rfl, Bool.not_true, kbf, t36g (n0 + 2) base g1.mats (h5.keeps hk1) (by omega) (by omega) (fun r hr => by have := hl2 r hr; omega), kcs, not4, k1s, Bool.not_true, kbf]
      by_cases hne : (if rowE l nn then southL l nn else []) = []
      · have hv : v = nilS := by
          rcases g1 with ⟨_, h⟩ | ⟨_, _, _, _, _, _, b5, _⟩
          · exact h
          · rw [hne] at b5; simp at b5
        subst hv
        rw [r13_L2_s, len23n, k2s, show (.int .i64 0 : Value) = vi 0 from rfl, lss3, k1s, decide_eq_false (by omega), kbf, add1 i (by omega), k1s]
        exact loop13 n0 base hn0 kp kr kx hbb hT hu hnl h5 n (i + 1) m1 hk1 (by omega) (by omega)
      · obtain ⟨q, ps, hv, hq, hpl, hr1, hr2, hr3⟩ := g1.parts hne
        have hw1 : 1 ≤ nn.length := by
          cases hE : rowE l nn with
          | false => rw [hE] at hne; simp at hne
          | true => exact (rowE_facts hE).2.1
        obtain ⟨m2, e2, k2⟩ := loop13b (rt (n0 + 4)) (n0 + 4) base (fun y0_23 y1_24 y5_25 y6_26 y7_27 m => (k1n (mbin E .add 3 y7_27 (.int .i64 1)) fun v29_28 => (r13_L0 (rt (n0 + 4)) (n0 + 4) base kp kr kx n y0_23 y1_24 y5_25 y6_26 v29_28 m))) x0 x1 x5 (vi (if rowE l nn then 0 else 2)) (vi i) (B := m.length) (Nat.le_trans hbb hk.1) hw1 hpl hr2 (by omega) (n0 + 4) 0 m1 hr1 hr3 (Nat.zero_le _) (by omega)
        rw [hv, i0, e2, add1 i (by omega), k1s]
        exact loop13 n0 base hn0 kp kr kx hbb hT hu hnl h5 n (i + 1) m2 (hk1.trans (k2.mono hk.1)) (by omega) (by omega)
    · rw [decide_eq_false hlt, kbf]
      exact ⟨m, rfl, hk⟩
theorem t13 (n0 base : Nat) (hn0 : 140000 ≤ n0) {m : M} (hbb : base ≤ m.length) {v0 v1 : Value} {l : List Wg} {nn : List Int} (hT : Tiles m v0 l) (hu : Ints m v1 nn) : ∃ m', rt (n0 + 5) base 13 [v0, v1] m = some (.ret (.bool true), m') := by
  rw [rt_imp (f := 13) (rf := rf13) (by kernel_rfl) (by kernel_rfl) (by kernel_rfl) (n0 + 4) base]
  show ∃ m', r13 (rt (n0 + 4)) (n0 + 4) base v0 v1 m = _
  unfold r13
  rw [k1_fun, fVal_fun, vcall_fun, hT.len, k2s, show (.int .i64 40 : Value) = vi (40 : Nat) from rfl, gtr3, k1s]
  by_cases h1 : l.length ≤ 40
  · rw [decide_eq_false (show ¬ ((l.length : Nat) : Int) > (40 : Nat) by omega), kbf, hu.len, k2s, show (.int .i64 20 : Value) = vi (20 : Nat) from rfl, gtr3, k1s]
    by_cases h2 : nn.length ≤ 20
    · obtain ⟨v5, m1, e1, g1, k1⟩ := t45g (n0 + 1) base (by omega) hbb hT hu (by omega)
      rw [decide_eq_false (show ¬ ((nn.length : Nat) : Int) > (20 : Nat) by omega), kbf, e1, kcs, ex20, k1s, ex21, k1s, i0]
      obtain ⟨m2, e2, k2⟩ := loop13 n0 base hn0 (fun v m => some (.pan v, m)) (fun y4_29 m => some (.ret y4_29, m)) (fun m => (kc (rt (n0 + 4) base 16 [] m) (fun v56_30 m => some (.ret v56_30, m)) (fun v m => some (.pan v, m)))) (Nat.le_trans hbb k1.1) (hT.keeps k1) (hu.keeps k1) (by omega) g1.mats (n0 + 4) 0 m1 (Keeps.refl _ _) (by omega) (by omega)
      rw [e2, rt16, kcs]
      exact ⟨m2, rfl⟩
    · rw [decide_eq_true (show ((nn.length : Nat) : Int) > (20 : Nat) by omega), kbt, rt16, kcs]
      exact ⟨m, rfl⟩
  · rw [decide_eq_true (show ((l.length : Nat) : Int) > (40 : Nat) by omega), kbt, rt16, kcs]
    exact ⟨m, rfl⟩
theorem law13 {m : M} {v0 v1 : Value} {l : List Wg} {nn : List Int} (hT : Tiles m v0 l) (hu : Ints m v1 nn) : ∃ m', rt 150000 m.length 13 [v0, v1] m = some (.ret (.bool true), m') :=
  t13 149995 m.length (by omega) (Nat.le_refl _) hT hu
end Go.AM
