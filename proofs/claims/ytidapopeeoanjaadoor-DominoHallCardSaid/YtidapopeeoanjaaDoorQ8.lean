import Derived.Carry
import Derived.Handy
import Derived.KernelRfl
import Derived.Laws.StructEq
import Derived.Maps.AppendAt
import Derived.Maps.OwnOps
import Derived.Maps.RangeRun
import Derived.Maps.RangeWalk
import Derived.Test.YtidapopeeoanjaaDoorRows
import Derived.WalkKit
import Derived.Test.YtidapopeeoanjaaDoorAmModel
import Derived.Test.YtidapopeeoanjaaDoorAmOps5
import Derived.Test.YtidapopeeoanjaaDoorAmOps6
import Derived.Test.YtidapopeeoanjaaDoorAmCode
import Derived.Test.YtidapopeeoanjaaDoorAmDraw5
import Derived.Test.YtidapopeeoanjaaDoorAmEq
import Derived.Test.YtidapopeeoanjaaDoorRBase
import Derived.Test.YtidapopeeoanjaaDoorB1
import Derived.Test.YtidapopeeoanjaaDoorK1
import Derived.Test.YtidapopeeoanjaaDoorR7
import Derived.Test.YtidapopeeoanjaaDoorR41
import Derived.Test.YtidapopeeoanjaaDoorR42
import Derived.Test.YtidapopeeoanjaaDoorD3
import Derived.Test.YtidapopeeoanjaaDoorK3
import Derived.Test.YtidapopeeoanjaaDoorAmS
import Derived.Test.YtidapopeeoanjaaDoorK4
import Derived.Test.YtidapopeeoanjaaDoorK5
import Derived.Test.YtidapopeeoanjaaDoorK6
import Derived.Test.YtidapopeeoanjaaDoorS13
import Derived.Test.YtidapopeeoanjaaDoorS14
import Derived.Test.YtidapopeeoanjaaDoorD0
import Derived.Test.YtidapopeeoanjaaDoorDet1
import Derived.Test.YtidapopeeoanjaaDoorDH1
import Derived.Test.YtidapopeeoanjaaDoorD4
import Derived.Test.YtidapopeeoanjaaDoorM1
import Derived.Test.YtidapopeeoanjaaDoorM2
set_option linter.unusedVariables false
set_option linter.unusedSimpArgs false
set_option linter.unusedSectionVars false
namespace Go.AM
open Go Go.Proofs
open Go.AM.Kuhn hiding Run St
theorem Reach.inv {s : B} {mate : List B} {P : B → Prop} (hs : ∀ r, P r → P (stepR s mate r)) {r R : B} (h : Reach s mate r R) : P r → P R := by
  induction h with
  | refl => exact id
  | step _ ih => exact fun hp => ih (hs _ hp)
theorem orM_get {mate : List B} (ho : Ones mate) : ∀ (l : List Nat) (a : B) (i : Nat), (∀ w ∈ l, w < 64) → ((orM mate (l.map one) a).getLsbD i = true ↔ a.getLsbD i = true ∨ ∃ w, w ∈ l ∧ mt mate w = some i)
  | [], a, i, _ => by simp [orM]
  | w :: l, a, i, h => by
    have hw := h w (List.mem_cons_self ..)
    show (orM mate (l.map one) (a ||| mate.getD (tz (one w)) 0)).getLsbD i = true ↔ _
    rw [orM_get ho l _ i (fun x hx => h x (List.mem_cons_of_mem _ hx)), tz_one w hw, or_get, Bool.or_eq_true]
    have key : (mate.getD w 0).getLsbD i = true ↔ mt mate w = some i := by
      unfold mt
      rcases ho.get w with h0 | ⟨k, hk, h0⟩
      · rw [h0]; simp
      · rw [h0, if_neg (one_ne k hk), tz_one k hk, one_get _ _ hk, decide_eq_true_eq]
        simp [eq_comm]
    rw [key]
    constructor
    · rintro ((h1 | h1) | ⟨x, h1, h2⟩)
      · exact .inl h1
      · exact .inr ⟨w, List.mem_cons_self .., h1⟩
      · exact .inr ⟨x, List.mem_cons_of_mem _ h1, h2⟩
    · rintro (h1 | ⟨x, h1, h2⟩)
      · exact .inl (.inl h1)
      · rcases List.mem_cons.1 h1 with rfl | h3
        · exact .inl (.inr h2)
        · exact .inr ⟨x, h3, h2⟩
theorem stepR_get {s : B} {mate : List B} (ho : Ones mate) (r : B) (i : Nat) : (stepR s mate r).getLsbD i = true ↔ r.getLsbD i = true ∨ ∃ w, (nbB r &&& s).getLsbD w = true ∧ mt mate w = some i := by
  unfold stepR
  rw [sing_eq, orM_get ho _ _ _ (fun w hw => get_lt ((bitsL_mem _ w).1 hw))]
  simp only [bitsL_mem]
theorem mt_lt {mate : List B} (ho : Ones mate) {i j : Nat} (h : mt mate i = some j) : i < 64 := by
  unfold mt at h
  rcases Nat.lt_or_ge i 64 with h1 | h1
  · exact h1
  · rw [show mate.getD i 0 = 0 by simp [List.getD, List.getElem?_eq_none (show mate.length ≤ i by rw [ho.1]; exact h1)]] at h
    simp at h
/-- What a mate is. -/
theorem mate_facts {s : B} {D : Kuhn.St} (hI : Kuhn.Inv (NS s) (muP (pairB s)) (nuP (pairB s)) D (fun x => s.getLsbD x = true ∧ isBl x = true)) (ho : Ones (pairB s)) {i j : Nat} (e : mt (pairB s) i = some j) :
    s.getLsbD i = true ∧ s.getLsbD j = true ∧ adjB i j = true ∧ mt (pairB s) j = some i := by
  have hi64 := mt_lt ho e
  by_cases hb : isBl i = true
  · have hnu : nuP (pairB s) i = some j := by unfold nuP; rw [if_pos hb]; exact e
    have hmu := (hI.ok.cons i j).1 hnu
    obtain ⟨_, hsj, ha, _⟩ := hI.ok.edge j i hmu
    have hd := hI.only i (by rw [hnu]; simp)
    refine ⟨hd.1, hsj, ha, ?_⟩
    unfold muP at hmu
    split at hmu
    · simp at hmu
    · exact hmu
  · have hmu : muP (pairB s) i = some j := by unfold muP; rw [if_neg hb]; exact e
    have hnu := (hI.ok.cons j i).2 hmu
    obtain ⟨hj64, hsi, ha, bj⟩ := hI.ok.edge i j hmu
    have hd := hI.only j (by rw [hnu]; simp)
    refine ⟨hsi, hd.1, by rw [adj_symm i j hi64 hj64]; exact ha, ?_⟩
    unfold nuP at hnu
    rw [if_pos bj] at hnu
    exact hnu
theorem pc_bits (s : B) : pc s = (bitsL s).length := pc_len s
/-- The closure of a lone cell refuses. -/
theorem closure_refuses {s : B} {c0 : Nat} (hs0 : s.getLsbD c0 = true) (hc0 : mt (pairB s) c0 = none) {R : B} (hR : Reach s (pairB s) (one c0) R) (hS : stepR s (pairB s) R = R) :
    R.getLsbD c0 = true ∧ (∀ c, R.getLsbD c = true → s.getLsbD c = true ∧ isBl c = isBl c0) ∧ pc (nbB R &&& s) < pc R := by
  obtain ⟨D, hI, ho, hm⟩ := pair_inv s
  have h064 := get_lt hs0
  have col : ∀ {a b : Nat}, a < 64 → b < 64 → adjB a b = true → isBl a = !isBl b := fun ha hb h => adj_col _ _ ha hb h
  let G : Nat → Prop := fun c => if isBl c0 = true then ∀ w, NS s c w → D w else ¬ D c
  have hG0 : G c0 := by
    show if isBl c0 = true then ∀ w, NS s c0 w → D w else ¬ D c0
    by_cases hb : isBl c0 = true
    · rw [if_pos hb]
      exact (hI.each c0 ⟨hs0, hb⟩).resolve_left (fun h => h (by unfold nuP; rw [if_pos hb]; exact hc0))
    · rw [if_neg hb]
      intro hd
      obtain ⟨b, h1, _⟩ := hI.closed c0 hd
      unfold muP at h1
      rw [if_neg hb, hc0] at h1
      simp at h1
  have hP : R.getLsbD c0 = true ∧ ∀ c, R.getLsbD c = true → s.getLsbD c = true ∧ isBl c = isBl c0 ∧ G c := by
    refine Reach.inv (P := fun R => R.getLsbD c0 = true ∧ ∀ c, R.getLsbD c = true → s.getLsbD c = true ∧ isBl c = isBl c0 ∧ G c) ?_ hR ⟨by rw [one_get _ _ h064]; simp, fun c hc => ?_⟩
    · intro r ⟨h1, h2⟩
      refine ⟨(stepR_get ho r c0).2 (.inl h1), fun c hc => ?_⟩
      rcases (stepR_get ho r c).1 hc with h3 | ⟨w, h3, h4⟩
      · exact h2 c h3
      · rw [and_get, Bool.and_eq_true] at h3
        obtain ⟨h3, hsw⟩ := h3
        have hw64 := get_lt hsw
        obtain ⟨c', hc'64, hrc', hadj⟩ := (nb_one r w hw64).1 h3
        obtain ⟨_, hsc, ha, hback⟩ := mate_facts hI ho h4
        have hc64 := get_lt hsc
        obtain ⟨hsc', hcol', hg'⟩ := h2 c' hrc'
        have e1 := col hc'64 hw64 hadj
        have e2 := col hw64 hc64 ha
        have hcc : isBl c = isBl c0 := by rw [← hcol', e1, e2, Bool.not_not]
        refine ⟨hsc, hcc, ?_⟩
        show if isBl c0 = true then ∀ w, NS s c w → D w else ¬ D c
        change (if isBl c0 = true then ∀ w, NS s c' w → D w else ¬ D c') at hg'
        by_cases hb : isBl c0 = true
        · rw [if_pos hb] at hg' ⊢
          have hbc' : isBl c' = true := hcol'.trans hb
          have hbw : isBl w = false := by rw [hbc'] at e1; simpa using e1.symm
          have hDw := hg' w ⟨hc'64, hsw, hadj, hbc'⟩
          obtain ⟨b, h5, h6⟩ := hI.closed w hDw
          unfold muP at h5
          rw [hbw, if_neg (by simp), h4] at h5
          cases h5
          exact h6
        · rw [if_neg hb] at hg' ⊢
          intro hd
          have hbc' : isBl c' = false := by rw [hcol']; simpa using hb
          have hbc : isBl c = false := by rw [hcc]; simpa using hb
          have hbw : isBl w = true := by rw [hbc'] at e1; simpa using e1.symm
          obtain ⟨b, h5, h6⟩ := hI.closed c hd
          unfold muP at h5
          rw [hbc, if_neg (by simp), hback] at h5
          cases h5
          exact hg' (h6 c' ⟨hw64, hsc', by rw [adj_symm w c' hw64 hc'64]; exact hadj, hbw⟩)
    · rw [one_get _ _ h064, decide_eq_true_eq] at hc
      subst hc
      exact ⟨hs0, rfl, hG0⟩
  obtain ⟨hP1, hP2⟩ := hP
  refine ⟨hP1, fun c hc => ⟨(hP2 c hc).1, (hP2 c hc).2.1⟩, ?_⟩
  -- every neighbour has a mate, in R
  have hmate : ∀ w, (nbB R &&& s).getLsbD w = true → ∃ c, mt (pairB s) w = some c ∧ R.getLsbD c = true := by
    intro w hw
    have hw' := hw
    rw [and_get, Bool.and_eq_true] at hw
    obtain ⟨h3, hsw⟩ := hw
    have hw64 := get_lt hsw
    obtain ⟨c', hc'64, hrc', hadj⟩ := (nb_one R w hw64).1 h3
    obtain ⟨hsc', hcol', hg'⟩ := hP2 c' hrc'
    have e1 := col hc'64 hw64 hadj
    have hne : ∃ c, mt (pairB s) w = some c := by
      change (if isBl c0 = true then ∀ w, NS s c' w → D w else ¬ D c') at hg'
      by_cases hb : isBl c0 = true
      · rw [if_pos hb] at hg'
        have hbc' : isBl c' = true := hcol'.trans hb
        have hbw : isBl w = false := by rw [hbc'] at e1; simpa using e1.symm
        obtain ⟨b, h5, _⟩ := hI.closed w (hg' w ⟨hc'64, hsw, hadj, hbc'⟩)
        unfold muP at h5
        rw [hbw, if_neg (by simp)] at h5
        exact ⟨b, h5⟩
      · rw [if_neg hb] at hg'
        have hbc' : isBl c' = false := by rw [hcol']; simpa using hb
        have hbw : isBl w = true := by rw [hbc'] at e1; simpa using e1.symm
        cases e : mt (pairB s) w with
        | some c => exact ⟨c, rfl⟩
        | none =>
          have hall := (hI.each w ⟨hsw, hbw⟩).resolve_left (fun h => h (by unfold nuP; rw [if_pos hbw]; exact e))
          exact absurd (hall c' ⟨hw64, hsc', by rw [adj_symm w c' hw64 hc'64]; exact hadj, hbw⟩) hg'
    obtain ⟨c, hc⟩ := hne
    refine ⟨c, hc, ?_⟩
    rw [← hS]
    exact (stepR_get ho R c).2 (.inr ⟨w, hw', hc⟩)
  rw [pc_bits, pc_bits]
  have hnd : (c0 :: (bitsL (nbB R &&& s)).map fun w => (mt (pairB s) w).getD 0).Nodup := by
    rw [List.nodup_cons]
    constructor
    · intro hin
      obtain ⟨w, hw, e⟩ := List.mem_map.1 hin
      obtain ⟨c, hc, _⟩ := hmate w ((bitsL_mem _ w).1 hw)
      rw [hc] at e
      have := (mate_facts hI ho hc).2.2.2
      simp only [Option.getD_some] at e
      rw [e, hc0] at this
      simp at this
    · refine map_nodup (bitsL_nodup _) fun w hw w' hw' e => ?_
      obtain ⟨c, hc, _⟩ := hmate w ((bitsL_mem _ w).1 hw)
      obtain ⟨c', hc', _⟩ := hmate w' ((bitsL_mem _ w').1 hw')
      rw [hc, hc'] at e
      simp only [Option.getD_some] at e
      subst e
      have h1 := (mate_facts hI ho hc).2.2.2
      have h2 := (mate_facts hI ho hc').2.2.2
      rw [h1] at h2
      exact Option.some.inj h2
  have := nodup_len hnd (l' := bitsL R) (fun x hx => by
    rw [bitsL_mem]
    rcases List.mem_cons.1 hx with rfl | h
    · exact hP1
    · obtain ⟨w, hw, e⟩ := List.mem_map.1 h
      obtain ⟨c, hc, hcR⟩ := hmate w ((bitsL_mem _ w).1 hw)
      rw [hc] at e
      simp only [Option.getD_some] at e
      rw [← e]; exact hcR)
  rw [List.length_cons, List.length_map] at this
  omega
theorem cellAt_one (i : Nat) (h : i < 64) : cellB (cellAt (one i)).1 (cellAt (one i)).2 = one i := by
  unfold cellAt cellB
  rw [tz_one i h]
  simp only
  rw [if_pos (by omega)]
  congr 1
  omega
theorem one_nat (i : Nat) (h : i < 64) : (one i).toNat = 2 ^ i := by
  unfold one
  rw [BitVec.toNat_shiftLeft, Nat.shiftLeft_eq]
  have : 2 ^ i < 2 ^ 64 := Nat.pow_lt_pow_right (by omega) h
  rw [show (1#64).toNat = 1 from rfl, Nat.one_mul]
  exact Nat.mod_eq_of_lt this
theorem lt_one (g : B) (i : Nat) (h : i < 64) (hg : ∀ j, g.getLsbD j = true → j < i) : g.toNat < (one i).toNat := by
  rw [one_nat i h]
  refine Nat.lt_pow_two_of_testBit _ fun j hj => ?_
  cases e : g.toNat.testBit j with
  | false => rfl
  | true => have := hg j e; omega
theorem grp_list (s : B) : ∀ (l : List Nat) (g : B), (∀ i ∈ l, s.getLsbD i = true) → l.Pairwise (· < ·) → (∀ i ∈ l, ∀ j, g.getLsbD j = true → j < i) → ∃ g', grp s g (l.map fun i => cellAt (one i)) = some g' ∧ ∀ i, g'.getLsbD i = true ↔ g.getLsbD i = true ∨ i ∈ l
  | [], g, _, _, _ => ⟨g, rfl, fun i => by simp⟩
  | i :: l, g, h1, h2, h3 => by
    have hi := h1 i (List.mem_cons_self ..)
    have hi64 := get_lt hi
    rw [List.pairwise_cons] at h2
    show ∃ g', (if s &&& cellB (cellAt (one i)).1 (cellAt (one i)).2 = 0 then none else if (cellB (cellAt (one i)).1 (cellAt (one i)).2).toNat ≤ g.toNat then none else grp s (g ||| cellB (cellAt (one i)).1 (cellAt (one i)).2) (l.map fun i => cellAt (one i))) = some g' ∧ _
    have hlt := lt_one g i hi64 (h3 i (List.mem_cons_self ..))
    rw [cellAt_one i hi64, if_neg ((and_one hi64).2 hi), if_neg (by omega)]
    obtain ⟨g', e, hg⟩ := grp_list s l (g ||| one i) (fun x hx => h1 x (List.mem_cons_of_mem _ hx)) h2.2 (fun x hx j hj => by
      rw [or_get, one_get _ _ hi64, Bool.or_eq_true, decide_eq_true_eq] at hj
      rcases hj with hj | rfl
      · exact h3 x (List.mem_cons_of_mem _ hx) j hj
      · exact h2.1 x hx)
    refine ⟨g', e, fun x => ?_⟩
    rw [hg, or_get, one_get _ _ hi64, Bool.or_eq_true, decide_eq_true_eq, List.mem_cons, or_assoc]
theorem bitsL_sorted (s : B) : (bitsL s).Pairwise (· < ·) := List.Pairwise.filter _ List.pairwise_lt_range
theorem grp_listB (s R : B) (h : ∀ c, R.getLsbD c = true → s.getLsbD c = true) : grp s 0 (listB R) = some R := by
  unfold listB
  rw [sing_eq, List.map_map]
  obtain ⟨g', e, hg⟩ := grp_list s (bitsL R) 0 (fun i hi => h i ((bitsL_mem R i).1 hi)) (bitsL_sorted R) (fun i _ j hj => by rw [zero_get] at hj; simp at hj)
  have : g' = R := B_ext fun i _ => by
    rw [Bool.eq_iff_iff, hg, zero_get, bitsL_mem]; simp
  rw [this] at e
  exact e
/-- What refusalOf finds, refutes. -/
theorem refusal_ok {s R : B} (hn : aloneB s (pairB s) ≠ 0) (hR : Reach s (pairB s) (low (aloneB s (pairB s))) R) (hS : stepR s (pairB s) R = R) : refB s (listB R) = true ∧ R ≠ 0 := by
  obtain ⟨c0, h64, h1, h2, e⟩ := low_one hn
  rw [e] at hR
  obtain ⟨hs0, hc0⟩ := (aloneB_get s (pairB s) c0).1 h1
  obtain ⟨a1, a2, a3⟩ := closure_refuses hs0 hc0 hR hS
  refine ⟨?_, ne_of_get a1⟩
  unfold refB
  rw [grp_listB s R fun c hc => (a2 c hc).1]
  show refG s R = true
  unfold refG
  have : ¬ (R &&& blackB ≠ 0 ∧ R &&& ~~~blackB ≠ 0) := by
    rintro ⟨b1, b2⟩
    obtain ⟨i, hi, g1⟩ := B_ne b1
    obtain ⟨j, hj, g2⟩ := B_ne b2
    rw [and_get, bl_get i hi, Bool.and_eq_true] at g1
    rw [sub_get, bl_get j hj, Bool.and_eq_true, Bool.not_eq_true'] at g2
    have x1 := (a2 i g1.1).2
    have x2 := (a2 j g2.1).2
    rw [g1.2] at x1
    rw [g2.2] at x2
    rw [← x1] at x2
    simp at x2
  rw [if_neg this]
  exact decide_eq_true a3
theorem reach_zero {s : B} {mate : List B} {R : B} (hR : Reach s mate 0 R) : R = 0 := by
  refine Reach.inv (P := fun r => r = 0) (fun r hr => ?_) hR rfl
  subst hr
  unfold stepR
  have : nbB 0 &&& s = 0 := by
    rw [show nbB 0 = 0 by decide +kernel]; simp
  rw [this]
  rfl
/-- What refutes leaves no tiling. -/
theorem grp_sub (s : B) : ∀ (l : List Cel) (g g' : B), grp s g l = some g' → ∀ i, g'.getLsbD i = true → g.getLsbD i = true ∨ s.getLsbD i = true
  | [], g, g', h, i, hi => by
    cases h; exact .inl hi
  | c :: l, g, g', h, i, hi => by
    unfold grp at h
    split at h
    · simp at h
    · rename_i hne
      split at h
      · simp at h
      · rcases grp_sub s l _ _ h i hi with h1 | h1
        · rw [or_get, Bool.or_eq_true] at h1
          rcases h1 with h1 | h1
          · exact .inl h1
          · unfold cellB at h1 hne
            split at h1
            · rename_i hc
              rw [if_pos hc] at hne
              have h64 : (c.2 * 8 + c.1).toNat < 64 := by omega
              rw [one_get _ _ h64, decide_eq_true_eq] at h1
              subst h1
              exact .inr ((and_one h64).1 hne)
            · rw [zero_get] at h1; simp at h1
        · exact .inr h1
theorem refutes_sound {s : B} {l : List Cel} (h : refB s l = true) : canB s = false := by
  cases e : canB s with
  | false => rfl
  | true =>
    exfalso
    have hpm := pm_of_can e
    unfold refB at h
    cases hg : grp s 0 l with
    | none => rw [hg] at h; simp at h
    | some g =>
      rw [hg] at h
      have hgs : ∀ i, g.getLsbD i = true → s.getLsbD i = true := fun i hi => (grp_sub s l 0 g hg i hi).resolve_left (by rw [zero_get]; simp)
      have hlt : pc (nbB g &&& s) < pc g := by
        change refG s g = true at h
        unfold refG at h
        split at h
        · simp at h
        · exact of_decide_eq_true h
      rw [pc_bits, pc_bits] at hlt
      have hf : ∀ i ∈ bitsL g, ∃ j, mt (pairB s) i = some j ∧ (nbB g &&& s).getLsbD j = true ∧ mt (pairB s) j = some i := by
        intro i hi
        have hgi := (bitsL_mem g i).1 hi
        obtain ⟨j, h1, h2, h3, h4⟩ := hpm i (hgs i hgi)
        refine ⟨j, h1, ?_, h4⟩
        rw [and_get, h2, Bool.and_true]
        exact (nb_one g j (get_lt h2)).2 ⟨i, get_lt hgi, hgi, h3⟩
      have hnd : ((bitsL g).map fun i => (mt (pairB s) i).getD 0).Nodup := map_nodup (bitsL_nodup _) fun i hi i' hi' e => by
        obtain ⟨j, h1, _, h2⟩ := hf i hi
        obtain ⟨j', h1', _, h2'⟩ := hf i' hi'
        rw [h1, h1'] at e
        simp only [Option.getD_some] at e
        subst e
        rw [h2] at h2'
        exact Option.some.inj h2'
      have := nodup_len hnd (l' := bitsL (nbB g &&& s)) (fun x hx => by
        obtain ⟨i, hi, e⟩ := List.mem_map.1 hx
        obtain ⟨j, h1, h2, _⟩ := hf i hi
        rw [h1] at e
        simp only [Option.getD_some] at e
        rw [bitsL_mem, ← e]; exact h2)
      rw [List.length_map] at this
      omega
/-- The first tiling is one. -/
def toDom (d : Nat × Bool) : Dom := (((d.1 % 8 : Nat) : Int), ((d.1 / 8 : Nat) : Int), d.2)
theorem doms_eq (l : List (Nat × Bool)) : domsV l = dsV (l.map toDom) := by
  unfold domsV dsV
  rw [List.flatMap_map]
  rfl
theorem ft_ok : ∀ (d i : Nat) (s : B), i + d = 64 → (∀ j, j < i → s.getLsbD j = false) → canB s = true → isT s ((ftL d s).map toDom) = true
  | 0, i, s, hi, hs, _ => by
    have h0 : s = 0 := B_zero fun j hj => hs j (by omega)
    subst h0
    rfl
  | d + 1, i, s, hi, hs, hc => by
    by_cases h0 : s = 0
    · subst h0
      rfl
    · obtain ⟨l, hl64, hsl, hlow, e⟩ := low_one h0
      have ht : tz s = l := tz_of hsl hlow
      have hcell : low s = cellB (toDom (tz s, false)).1 (toDom (tz s, false)).2.1 := by
        have := cellAt_one l hl64
        rw [e, ht, ← this]
        unfold cellAt toDom
        rw [tz_one l hl64]
      have hcell2 : low s = cellB (toDom (tz s, true)).1 (toDom (tz s, true)).2.1 := hcell
      have hN := (canB_nt s).1 hc
      rw [NT_rec h0] at hN
      rw [ftL_succ d s h0]
      by_cases hg : goR s = true
      · rw [if_pos hg, List.map_cons]
        unfold goR at hg
        rw [Bool.and_eq_true, decide_eq_true_eq] at hg
        unfold isT
        rw [if_pos hcell]
        have hsec : secB s (toDom (tz s, false)) = rightB (low s) := rfl
        rw [hsec, if_neg hg.1]
        exact ft_ok d (i + 1) _ (by omega) (clr_low hs h0 _) hg.2
      · rw [if_neg hg, List.map_cons]
        have hz : (if s &&& rightB (low s) ≠ 0 then NT (s &&& ~~~(low s ||| rightB (low s))) else 0) = 0 := by
          split
          · rename_i h1
            refine Classical.byContradiction fun h2 => hg ?_
            unfold goR
            rw [decide_eq_true h1, Bool.true_and]
            exact (canB_nt _).2 (by omega)
          · rfl
        rw [hz, Nat.zero_add] at hN
        have hb : s &&& belowB (low s) ≠ 0 := fun h => by rw [if_neg (fun x => x h)] at hN; omega
        rw [if_pos hb] at hN
        unfold isT
        rw [if_pos hcell2]
        have hsec : secB s (toDom (tz s, true)) = belowB (low s) := rfl
        rw [hsec, if_neg hb]
        exact ft_ok d (i + 1) _ (by omega) (clr_low hs h0 _) ((canB_nt _).2 hN)
end Go.AM
namespace Go.AM
open Go Go.Proofs
def rowL (bs : ByteArray) (y : Nat) : Nat → Nat → B → B → Option (B × B)
  | 0, _, c, g => some (c, g)
  | k + 1, x, c, g => match bs[x]? with
    | none => none
    | some b => if b.toNat = 35 then rowL bs y k (x + 1) (c ||| cellB x y) g else if b.toNat = 46 then rowL bs y k (x + 1) c (g ||| cellB x y) else none
def rowsL (w : Nat) : List ByteArray → Nat → B → B → Option (B × B)
  | [], _, c, g => some (c, g)
  | bs :: l, y, c, g => if bs.size = w then (match rowL bs y w 0 c g with
      | none => none
      | some (c', g') => rowsL w l (y + 1) c' g') else none
abbrev mg (m0 : M) (z : List Value) (w h : Nat) (c g : B) : M := m0 ++ [cellR z, cellR [vi w, vi h, vb c, vb g]]
def reg0 : List Value := [vi 0, vi 0, vb 0, vb 0]
theorem len9 (base : Nat) (m : M) (s : ByteArray) : vcalln E.P base m .len [9] [.string s] = some (vi s.size, m) := by kernel_rfl
theorem idx9 (s : ByteArray) (j : Nat) : mindex E.P 9 (.string s) (vi j) = (s[j]?).map fun b => .int .u8 (b.toNat : Int) := by
  have e : mindex E.P 9 (.string s) (vi j) = if 0 ≤ (j : Int) then (s[(j : Int).toNat]?).map fun b => .int .u8 (b.toNat : Int) else none := by kernel_rfl
  rw [e, if_pos (by omega)]
  rfl
theorem eql5 (a : Nat) (b : Int) : mbin E .eql 5 (.int .u8 (a : Int)) (.int .u8 b) = some (.bool (decide ((a : Int) = b))) := by
  have e : mbin E .eql 5 (.int .u8 (a : Int)) (.int .u8 b) = some (.bool ((a : Int) == b)) := rfl
  rw [e]
  congr 2
theorem neq3 (a b : Nat) : mbin E .neq 3 (vi a) (vi b) = some (.bool (decide (a ≠ b))) := by
  have e : mbin E .neq 3 (vi a) (vi b) = some (.bool ((a : Int) != (b : Int))) := rfl
  rw [e]
  congr 2
  rw [Bool.eq_iff_iff]
  simp
  omega
theorem fa60 (p : Nat) : mfieldAddr E.P 60 (pt p 0) 0 = some (pt p 0) ∧ mfieldAddr E.P 60 (pt p 0) 2 = some (pt p 2) ∧ mfieldAddr E.P 60 (pt p 0) 3 = some (pt p 3) := by
  refine ⟨?_, ?_, ?_⟩ <;> kernel_rfl
theorem al60 (m : M) : xalloc E.P m 60 = some (pt m.length 0, m ++ [cellR reg0]) := by
  have e1 : xalloc E.P m 60 = xlen m fun n => xpush m (cellR reg0) fun m' => some (pt n 0, m') := by kernel_rfl
  rw [e1, xlen_eq, fNat_eq, xpush_eq, fList_eq]
theorem b60e : mbuild E.P 60 [] = some (.agg reg0.toArray) := by kernel_rfl
theorem b60 (w h : Int) : mbuild E.P 60 [(0, vi w), (1, vi h)] = some (.agg #[vi w, vi h, vb 0, vb 0]) := by kernel_rfl
theorem ld22c (m : M) (r off : Nat) : xload E.P m 9 (pt r off) = mcell m r off := by
  have e : xload E.P m 9 (pt r off) = xcell m r off := by kernel_rfl
  rw [e, xcell_eq]
theorem ix22 (p l c j : Nat) (h : j < l) : mindexAddr E.P 22 (.slice (some ⟨p, 0, none⟩) l c) (vi j) = some (pt p j) := by
  have e : mindexAddr E.P 22 (.slice (some ⟨p, 0, none⟩) l c) (vi j) = if 0 ≤ (j : Int) ∧ (j : Int) < l then some (.pointer (some ⟨p, 0 + ((j : Int)).toNat * 1, none⟩)) else none := by kernel_rfl
  rw [e, if_pos (by omega)]
  simp
theorem st60 (base : Nat) (m : M) (r : Nat) (hb : base ≤ r) (z z' : List Value) (hz : z.length = 4) (hz' : z'.length = 4) (ho : z'.all (·.oneCell') = true) (hr : m[r]? = some (cellR z)) : xstore E.P base m 60 (pt r 0) (.agg z'.toArray) = some (m.set r (cellR z')) := by
  have e3 : xstore E.P base m 60 (pt r 0) (.agg z'.toArray) = if z'.toArray.size = 4 then xwrite base m r 0 z'.toArray.toList else none := by kernel_rfl
  rw [e3, if_pos (by simpa using hz'), xwrite_eq]
  unfold mwrite
  rw [if_neg (by omega), hr, List.toList_toArray]
  have hle : 0 + z'.length ≤ (cellR z).cells.length := by show 0 + z'.length ≤ z.length; omega
  have hsp : splice (cellR z).cells 0 z' = z' := by
    unfold splice
    show List.take 0 z ++ z' ++ List.drop (0 + z'.length) z = z'
    rw [List.take_zero, List.nil_append, List.drop_eq_nil_of_le (by omega), List.append_nil]
  show (if (cellR z).ro = true then none else if 0 + z'.length ≤ (cellR z).cells.length then _ else none) = _
  rw [if_neg (by simp [cellR]), if_pos hle, if_pos ho, hsp, fList_eq, fList_eq]
  rfl
theorem st58f (base : Nat) (m : M) (r : Nat) (hb : base ≤ r) (k : Nat) (hk : k < 4) (z : List Value) (hz : z.length = 4) (x : B) (hr : m[r]? = some (cellR z)) : xstore E.P base m 58 (pt r k) (vb x) = some (m.set r (cellR (z.set k (vb x)))) := by
  rw [st58, mwrite_one hb hr rfl (by show k < z.length; omega) rfl]
  rfl
theorem r41_L0_s (call : CallF) (fuel base : Nat) (kr : Value → Value → M → Res2) (kx0 : Value → Value → M → Res2) (n : Nat) (x2 x4 x38 x39 x40 : Value) (m : M) : r41_L0 call fuel base kr kx0 (n + 1) x2 x4 x38 x39 x40 m =
    (k1n (mbin E .lss 3 x40 x39) fun v41_29 => (kb v41_29 (k1n (mindexAddr E.P 22 x38 x40) fun v43_30 => (k1n (xload E.P m 9 v43_30) fun v44_31 => (k2 (vcalln E.P base m .len [9] [v44_31]) fun v46_32 m => (k1n (mfieldAddr E.P 60 x4 0) fun v47_33 => (k1n (xload E.P m 3 v47_33) fun v48_34 => (k1n (mbin E .neq 3 v46_32 v48_34) fun v49_35 => (kb v49_35 (k1n (mbuild E.P 60 []) fun v50_36 => (ks (xstore E.P base m 60 x2 v50_36) fun m => (kr x2 (.bool false) m))) (k1n (mfieldAddr E.P 60 x4 0) fun v51_37 => (k1n (xload E.P m 3 v51_37) fun v52_38 => (r41_L2 call fuel base (fun y2_56 y3_57 m => (kr y2_56 y3_57 m)) (fun y2_58 y4_59 y38_60 y39_61 y40_62 m => (k1n (mbin E .add 3 y40_62 (.int .i64 1)) fun v79_63 => (r41_L0 call fuel base kr kx0 n y2_58 y4_59 y38_60 y39_61 v79_63 m))) fuel x2 x4 x40 v44_31 x38 x39 x40 v52_38 (.int .i64 0) m)))))))))) (kx0 x2 x4 m))) := by
  unfold r41_L0
  rw [k1_fun, vcall_fun]
theorem r41_L2_s (call : CallF) (fuel base : Nat) (kr : Value → Value → M → Res2) (kx2 : Value → Value → Value → Value → Value → M → Res2) (n : Nat) (x2 x4 x5 x6 x38 x39 x40 x52 x53 : Value) (m : M) : r41_L2 call fuel base kr kx2 (n + 1) x2 x4 x5 x6 x38 x39 x40 x52 x53 m =
    (k1n (mbin E .lss 3 x53 x52) fun v54_39 => (kb v54_39 (k1n (mindex E.P 9 x6 x53) fun v58_40 => (k1n (mbin E .eql 5 v58_40 (.int .u8 35)) fun v61_41 => (kb v61_41 (k1n (mfieldAddr E.P 60 x4 2) fun v62_42 => (k1n (xload E.P m 58 v62_42) fun v63_43 => (kc (kB m (call m.length 69 [x53, x5] m)) (fun v66_44 m => (k1n (mbin E .or 58 v63_43 v66_44) fun v67_45 => (k1n (mfieldAddr E.P 60 x4 2) fun v68_46 => (ks (xstore E.P base m 58 v68_46 v67_45) fun m => (k1n (mbin E .add 3 x53 (.int .i64 1)) fun v78_47 => (r41_L2 call fuel base kr kx2 n x2 x4 x5 x6 x38 x39 x40 x52 v78_47 m)))))) (fun _ _ => none)))) (k1n (mbin E .eql 5 v58_40 (.int .u8 46)) fun v70_48 => (kb v70_48 (k1n (mfieldAddr E.P 60 x4 3) fun v71_49 => (k1n (xload E.P m 58 v71_49) fun v72_50 => (kc (kB m (call m.length 69 [x53, x5] m)) (fun v75_51 m => (k1n (mbin E .or 58 v72_50 v75_51) fun v76_52 => (k1n (mfieldAddr E.P 60 x4 3) fun v77_53 => (ks (xstore E.P base m 58 v77_53 v76_52) fun m => (k1n (mbin E .add 3 x53 (.int .i64 1)) fun v78_54 => (r41_L2 call fuel base kr kx2 n x2 x4 x5 x6 x38 x39 x40 x52 v78_54 m)))))) (fun _ _ => none)))) (k1n (mbuild E.P 60 []) fun v59_55 => (ks (xstore E.P base m 60 x2 v59_55) fun m => (kr x2 (.bool false) m)))))))) (kx2 x2 x4 x38 x39 x40 m))) := by
  unfold r41_L2
  rw [k1_fun]
theorem mg_at (m0 : M) (z : List Value) (w h : Nat) (c g : B) : (mg m0 z w h c g)[m0.length + 1]? = some (cellR [vi w, vi h, vb c, vb g]) := by simp [mg]
theorem mg_z (m0 : M) (z : List Value) (w h : Nat) (c g : B) : (mg m0 z w h c g)[m0.length]? = some (cellR z) := by simp [mg]
theorem mg_lo (m0 : M) (z : List Value) (w h : Nat) (c g : B) {p : Nat} (hp : p < m0.length) : (mg m0 z w h c g)[p]? = m0[p]? := by simp [mg, List.getElem?_append_left hp]
theorem mg_set (m0 : M) (z : List Value) (w h : Nat) (c g : B) (w' h' : Nat) (c' g' : B) : (mg m0 z w h c g).set (m0.length + 1) (cellR [vi w', vi h', vb c', vb g']) = mg m0 z w' h' c' g' := by
  simp [mg, List.set_append]
theorem mg_setz (m0 : M) (z z' : List Value) (w h : Nat) (c g : B) : (mg m0 z w h c g).set m0.length (cellR z') = mg m0 z' w h c g := by
  simp [mg, List.set_append]
theorem loop41b (call : CallF) (hc : ∀ base x y m, call base 69 [vi x, vi y] m = some (.ret (vb (cellB x y)), m)) (fuel : Nat) (m0 : M) (kr : Value → Value → M → Res2) (kx : Value → Value → Value → Value → Value → M → Res2) (y : Nat) (bs : ByteArray) (w h : Nat) (hw : w ≤ 8) (hbs : bs.size = w) (z : List Value) (hz : z.length = 4) (x38 x39 x40 : Value) :
    ∀ (k n x : Nat) (c g : B), x + k = w → k < n →
      ∃ c2 g2, r41_L2 call fuel m0.length kr kx n (pt m0.length 0) (pt (m0.length + 1) 0) (vi y) (.string bs) x38 x39 x40 (vi w) (vi x) (mg m0 z w h c g) = match rowL bs y k x c g with
        | none => kr (pt m0.length 0) (.bool false) (mg m0 reg0 w h c2 g2)
        | some (c', g') => kx (pt m0.length 0) (pt (m0.length + 1) 0) x38 x39 x40 (mg m0 z w h c' g')
  | 0, n, x, c, g, hx, hn => by
    obtain ⟨n', rfl⟩ : ∃ n', n = n' + 1 := ⟨n - 1, by omega⟩
    rw [r41_L2_s]
    simp only [lss_nat, k1n]
    rw [decide_eq_false (by omega)]
    exact ⟨c, g, rfl⟩
  | k + 1, n, x, c, g, hx, hn => by
    obtain ⟨n', rfl⟩ : ∃ n', n = n' + 1 := ⟨n - 1, by omega⟩
    rw [r41_L2_s]
    simp only [lss_nat, k1n]
    rw [decide_eq_true (by omega : x < w)]
    simp only [kb]
    have hb : ∃ b, bs[x]? = some b := ⟨bs[x]'(by omega), by rw [getElem?_pos]⟩
    obtain ⟨b, hb⟩ := hb
    rw [idx9, hb]
    unfold rowL
    rw [hb]
    simp only [Option.map_some, eql5, (fa60 (m0.length + 1)).2.1, (fa60 (m0.length + 1)).2.2, ld58, hc, kB_same, kc]
    by_cases h1 : b.toNat = 35
    · rw [decide_eq_true (by omega : (b.toNat : Int) = 35), if_pos h1]
      simp only
      have e1 : mcell (mg m0 z w h c g) (m0.length + 1) 2 = some (vb c) := by unfold mcell; rw [mg_at]; rfl
      rw [e1]
      simp only [b_or]
      rw [st58f m0.length _ (m0.length + 1) (by omega) 2 (by omega) _ rfl _ (mg_at ..)]
      simp only [ks]
      rw [add1 x (by omega)]
      simp only
      have e2 : ([vi w, vi h, vb c, vb g] : List Value).set 2 (vb (c ||| cellB x y)) = [vi w, vi h, vb (c ||| cellB x y), vb g] := rfl
      rw [e2, mg_set]
      exact loop41b call hc fuel m0 kr kx y bs w h hw hbs z hz x38 x39 x40 k n' (x + 1) _ g (by omega) (by omega)
    · rw [decide_eq_false (by omega : ¬ (b.toNat : Int) = 35), if_neg h1]
      simp only
      by_cases h2 : b.toNat = 46
      · rw [decide_eq_true (by omega : (b.toNat : Int) = 46), if_pos h2]
        simp only
        have e1 : mcell (mg m0 z w h c g) (m0.length + 1) 3 = some (vb g) := by unfold mcell; rw [mg_at]; rfl
        rw [e1]
        simp only [b_or]
        rw [st58f m0.length _ (m0.length + 1) (by omega) 3 (by omega) _ rfl _ (mg_at ..)]
        simp only [ks]
        rw [add1 x (by omega)]
        simp only
        have e2 : ([vi w, vi h, vb c, vb g] : List Value).set 3 (vb (g ||| cellB x y)) = [vi w, vi h, vb c, vb (g ||| cellB x y)] := rfl
        rw [e2, mg_set]
        exact loop41b call hc fuel m0 kr kx y bs w h hw hbs z hz x38 x39 x40 k n' (x + 1) c _ (by omega) (by omega)
      · rw [decide_eq_false (by omega : ¬ (b.toNat : Int) = 46), if_neg h2]
        simp only [b60e]
        rw [st60 m0.length _ m0.length (Nat.le_refl _) z reg0 hz rfl rfl (mg_z ..)]
        simp only [ks]
        rw [mg_setz]
        exact ⟨c, g, rfl⟩
end Go.AM
namespace Go.AM
open Go Go.Proofs
/-- A slice of strings in memory. -/
def Strs (m : M) (v : Value) (l : List ByteArray) : Prop := (l = [] ∧ v = nilS) ∨ ∃ p row, v = sl p l.length ∧ m[p]? = some row ∧ row.cells = l.map Value.string
theorem strs_cell {m : M} {p : Nat} {row : Row} {l : List ByteArray} (h : m[p]? = some row) (hc : row.cells = l.map Value.string) {j : Nat} (hj : j < l.length) : mcell m p j = some (.string l[j]) := by
  unfold mcell
  rw [h]
  show row.cells[j]? = _
  rw [hc, List.getElem?_map, List.getElem?_eq_getElem hj]
  rfl
theorem loop41 (call : CallF) (hc : ∀ base x y m, call base 69 [vi x, vi y] m = some (.ret (vb (cellB x y)), m)) (fuel : Nat) (hf : 9 ≤ fuel) (m0 : M) (kr : Value → Value → M → Res2) (kx0 : Value → Value → M → Res2) {p N : Nat} {row : Row} {l : List ByteArray} (hp : m0[p]? = some row) (hrow : row.cells = l.map Value.string) (hl : l.length = N) (hN : N ≤ 8) (w h : Nat) (hw : w ≤ 8) (z : List Value) (hz : z.length = 4) :
    ∀ (n j : Nat) (c g : B), j ≤ N → N < n + j →
      ∃ c2 g2, r41_L0 call fuel m0.length kr kx0 n (pt m0.length 0) (pt (m0.length + 1) 0) (sl p N) (vi N) (vi j) (mg m0 z w h c g) = match rowsL w (l.drop j) j c g with
        | none => kr (pt m0.length 0) (.bool false) (mg m0 reg0 w h c2 g2)
        | some (c', g') => kx0 (pt m0.length 0) (pt (m0.length + 1) 0) (mg m0 z w h c' g')
  | 0, j, c, g, hj, hn => by omega
  | n + 1, j, c, g, hj, hn => by
    rw [r41_L0_s]
    simp only [lss_nat, k1n]
    by_cases hlt : j < N
    · rw [decide_eq_true hlt]
      simp only [kb]
      rw [ix22 p N N j hlt]
      simp only
      have hpl : p < m0.length := (List.getElem?_eq_some_iff.1 hp).1
      have hdrop : l.drop j = l[j]'(by omega) :: l.drop (j + 1) := List.drop_eq_getElem_cons (by omega)
      rw [ld22c, strs_cell (l := l) (by rw [mg_lo m0 z w h c g hpl]; exact hp) hrow (by omega), hdrop]
      generalize l[j]'(by omega) = bs
      simp only
      rw [len9]
      simp only [k2]
      rw [(fa60 (m0.length + 1)).1]
      simp only [ld3c]
      have e0 : mcell (mg m0 z w h c g) (m0.length + 1) 0 = some (vi w) := by unfold mcell; rw [mg_at]; rfl
      rw [e0]
      simp only [neq3]
      unfold rowsL
      by_cases hs : bs.size = w
      · rw [if_pos hs, decide_eq_false (fun h => h hs)]
        simp only
        rw [show (.int .i64 0 : Value) = vi ((0 : Nat) : Int) from rfl]
        obtain ⟨c2, g2, e⟩ := loop41b call hc fuel m0 (fun y2_56 y3_57 m => (kr y2_56 y3_57 m)) (fun y2_58 y4_59 y38_60 y39_61 y40_62 m => k1n (mbin E .add 3 y40_62 (.int .i64 1)) fun r => r41_L0 call fuel m0.length kr kx0 n y2_58 y4_59 y38_60 y39_61 r m) j bs w h hw hs z hz (sl p N) (vi N) (vi j) w fuel 0 c g (by omega) (by omega)
        simp only [k1n] at e
        cases hr : rowL bs j w 0 c g with
        | none =>
          rw [hr] at e
          exact ⟨c2, g2, e⟩
        | some cg =>
          obtain ⟨c', g'⟩ := cg
          rw [hr] at e
          simp only at e
          rw [e]
          simp only
          rw [add1 j (by omega)]
          exact loop41 call hc fuel hf m0 kr kx0 hp hrow hl hN w h hw z hz n (j + 1) c' g' (by omega) (by omega)
      · rw [if_neg hs, decide_eq_true hs]
        simp only [b60e]
        rw [st60 m0.length _ m0.length (Nat.le_refl _) z reg0 hz rfl rfl (mg_z ..)]
        simp only [ks]
        rw [mg_setz]
        exact ⟨c, g, rfl⟩
    · rw [decide_eq_false hlt, List.drop_eq_nil_of_le (by omega)]
      exact ⟨c, g, rfl⟩
/-- What read makes of a list of strings. -/
def readB (l : List ByteArray) : Option (Nat × Nat × B × B) := match l with
  | [] => none
  | b :: l' => if 8 < (b :: l').length then none else if b.size < 1 then none else if 8 < b.size then none else
    match rowsL b.size (b :: l') 0 0 0 with
    | none => none
    | some (c, g) => some (b.size, (b :: l').length, c, g)
def regV : Option (Nat × Nat × B × B) → Value
  | none => .tuple #[.agg reg0.toArray, .bool false]
  | some (w, h, c, g) => .tuple #[.agg #[vi w, vi h, vb c, vb g], .bool true]
theorem readB_cons (b : ByteArray) (l' : List ByteArray) : readB (b :: l') = if 8 < (b :: l').length then none else if b.size < 1 then none else if 8 < b.size then none else
    match rowsL b.size (b :: l') 0 0 0 with
    | none => none
    | some (c, g) => some (b.size, (b :: l').length, c, g) := rfl
theorem ld60 {m : M} {r : Nat} {a b c d : Value} (h : m[r]? = some (cellR [a, b, c, d])) : xload E.P m 60 (pt r 0) = some (.agg #[a, b, c, d]) := by
  have e : xload E.P m 60 (pt r 0) = (xread m r 0 4).map fun cs => .agg cs.toArray := by kernel_rfl
  rw [e, xread_eq]
  unfold mread
  rw [h]
  rfl
theorem ml60 {m : M} {r : Nat} {a b c d : Value} (h : m[r]? = some (cellR [a, b, c, d])) : mload E.P m 60 (pt r 0) = some (.agg #[a, b, c, d]) := by
  have e : mload E.P m 60 (pt r 0) = (mread m r 0 4).map fun cs => .agg cs.toArray := by kernel_rfl
  rw [e]
  unfold mread
  rw [h]
  rfl
theorem len22 (base : Nat) (m : M) (o l c : Nat) : vcalln E.P base m .len [22] [.slice (some ⟨o, 0, none⟩) l c] = some (vi l, m) := by kernel_rfl
theorem len22n (base : Nat) (m : M) : vcalln E.P base m .len [22] [nilS] = some (vi 0, m) := by kernel_rfl
theorem t41 (n base : Nat) (v : Value) (l : List ByteArray) (m0 : M) (hl0 : l.length ≤ 9223372036854775807) (hsz : ∀ b ∈ l, b.size ≤ 9223372036854775807) (hv : Strs m0 v l) : rt (n + 12) base 41 [v] m0 = some (.ret (regV (readB l)), m0) := by
  have hflat : ∀ o, vflat (regV o) = true := fun o => by
    cases o with
    | none => rfl
    | some x => rfl
  suffices h : ∃ m1, r41 (rt (n + 11)) (n + 11) m0.length v m0 = some (.ret (regV (readB l)), m1) by
    obtain ⟨m1, h⟩ := h
    exact rt_pure (f := 41) (rf := rf41) (by kernel_rfl) (by kernel_rfl) (by kernel_rfl) (n + 11) base _ m0 m1 _ h (hflat _)
  unfold r41
  rw [vcall_fun, k1_fun, show (.int .i64 1 : Value) = vi ((1 : Nat) : Int) from rfl, show (.int .i64 8 : Value) = vi ((8 : Nat) : Int) from rfl, show (.int .i64 0 : Value) = vi ((0 : Nat) : Int) from rfl]
  rw [al60]
  simp only [k2]
  have hz : (m0 ++ [cellR reg0])[m0.length]? = some (cellR reg0) := by simp
  have bad : (ks (xstore E.P m0.length (m0 ++ [cellR reg0]) 60 (pt m0.length 0) (.agg reg0.toArray)) fun m => (k0 (mload E.P m 60 (pt m0.length 0)) fun r_5 => (some (.ret (.tuple #[r_5, (.bool false)]), m)))) = some (.ret (regV none), m0 ++ [cellR reg0]) := by
    rw [st60 m0.length _ m0.length (Nat.le_refl _) reg0 reg0 rfl rfl rfl hz]
    simp only [ks]
    rw [show (m0 ++ [cellR reg0]).set m0.length (cellR reg0) = m0 ++ [cellR reg0] by simp [List.set_append]]
    rw [ml60 (a := vi 0) (b := vi 0) (c := vb 0) (d := vb 0) hz]
    rfl
  have bad' := bad
  simp only [ks, k0] at bad'
  have gtr_nat : ∀ i j : Nat, mbin E .gtr 3 (vi i) (vi j) = some (.bool (decide (j < i))) := fun i j => by
    rw [i_gtr, show decide ((j : Int) < (i : Int)) = decide (j < i) from decide_eq_decide.2 (by omega)]
  rcases hv with ⟨rfl, rfl⟩ | ⟨p, row, rfl, hr, hc⟩
  · rw [show readB [] = none from rfl, len22n]
    simp only
    rw [show (vi 0 : Value) = vi ((0 : Nat) : Int) from rfl, lss_nat]
    rw [decide_eq_true (by omega : 0 < 1)]
    simp only [k1n, kb, b60e]
    exact ⟨_, bad⟩
  · rw [len22]
    simp only [k1n, lss_nat]
    cases l with
    | nil =>
      rw [show readB [] = none from rfl]
      rw [decide_eq_true (by simp : ([] : List ByteArray).length < 1)]
      simp only [kb, b60e]
      exact ⟨_, bad⟩
    | cons b l' =>
      have hpl : p < m0.length := (List.getElem?_eq_some_iff.1 hr).1
      have hr1 : (m0 ++ [cellR reg0])[p]? = some row := by rw [List.getElem?_append_left hpl]; exact hr
      rw [decide_eq_false (by simp : ¬ (b :: l').length < 1)]
      simp only [kb]
      rw [len22]
      simp only [gtr_nat]
      rw [readB_cons]
      by_cases h1 : 8 < (b :: l').length
      · rw [decide_eq_true h1, if_pos h1]
        simp only [b60e]
        exact ⟨_, bad⟩
      · rw [decide_eq_false h1, if_neg h1]
        simp only
        rw [ix22 p _ _ 0 (by simp)]
        simp only
        rw [ld22c, strs_cell hr1 hc (j := 0) (by simp)]
        simp only [List.getElem_cons_zero, len9, lss_nat]
        by_cases h2 : b.size < 1
        · rw [decide_eq_true h2, if_pos h2]
          simp only [b60e]
          exact ⟨_, bad⟩
        · rw [decide_eq_false h2, if_neg h2]
          simp only
          rw [ld22c, strs_cell hr1 hc (j := 0) (by simp)]
          simp only [List.getElem_cons_zero, len9, gtr_nat]
          by_cases h3 : 8 < b.size
          · rw [decide_eq_true h3, if_pos h3]
            simp only [b60e]
            exact ⟨_, bad⟩
          · rw [decide_eq_false h3, if_neg h3]
            simp only
            rw [ld22c, strs_cell hr1 hc (j := 0) (by simp)]
            simp only [List.getElem_cons_zero, len9]
            rw [len22]
            simp only [b60, al60]
            have hlen : (m0 ++ [cellR reg0]).length = m0.length + 1 := by simp
            rw [hlen, st60 m0.length _ (m0.length + 1) (by omega) reg0 [vi b.size, vi (b :: l').length, vb 0, vb 0] rfl rfl rfl (by simp)]
            simp only [ks]
            rw [len22]
            simp only
            have hm : ((m0 ++ [cellR reg0]) ++ [cellR reg0]).set (m0.length + 1) (cellR [vi b.size, vi (b :: l').length, vb 0, vb 0]) = mg m0 reg0 b.size (b :: l').length 0 0 := by
              simp [mg, List.set_append]
            rw [hm]
            obtain ⟨c2, g2, e⟩ := loop41 (rt (n + 11)) (fun base x y m => t69 (n + 10) base x y m) (n + 11) (by omega) m0 (fun y2_64 y3_65 m => (k0 (mload E.P m 60 y2_64) fun r_66 => (some (.ret (.tuple #[r_66, y3_65]), m)))) (fun y2_67 y4_68 m => (k1n (xload E.P m 60 y4_68) fun v80_69 => (ks (xstore E.P m0.length m 60 y2_67 v80_69) fun m => (k0 (mload E.P m 60 y2_67) fun r_70 => (some (.ret (.tuple #[r_70, (.bool true)]), m)))))) hr hc rfl (by omega) b.size (b :: l').length (by omega) reg0 rfl (n + 11) 0 0 0 (by omega) (by omega)
            simp only [k1n, ks] at e
            rw [e, List.drop_zero]
            cases hcg : rowsL b.size (b :: l') 0 0 0 with
            | none =>
              simp only [k0]
              rw [ml60 (a := vi 0) (b := vi 0) (c := vb 0) (d := vb 0) (mg_z m0 reg0 b.size (b :: l').length c2 g2)]
              exact ⟨_, rfl⟩
            | some cg =>
              obtain ⟨c', g'⟩ := cg
              simp only
              rw [ld60 (mg_at ..)]
              simp only
              rw [st60 m0.length _ m0.length (Nat.le_refl _) reg0 [vi b.size, vi (b :: l').length, vb c', vb g'] rfl rfl rfl (mg_z ..)]
              simp only
              rw [mg_setz]
              simp only [k0]
              rw [ml60 (mg_z ..)]
              exact ⟨_, rfl⟩
end Go.AM
namespace Go.AM
open Go Go.Proofs
theorem r12_L0_s (call : CallF) (fuel base : Nat) (kr : Value → M → Res2) (kx0 : M → Res2) (n : Nat) (x0 x3 : Value) (m : M) : r12_L0 call fuel base kr kx0 (n + 1) x0 x3 m =
    (k2 (vcalln E.P base m .len [22] [x0]) fun v6_1 m => (k1n (mbin E .lss 3 x3 v6_1) fun v7_2 => (kb v7_2 (k1n (mbin E .geq 3 x3 (.int .i64 20)) fun v11_3 => (kb v11_3 (kr (.bool false) m) (k1n (mindexAddr E.P 22 x0 x3) fun v15_4 => (k1n (xload E.P m 9 v15_4) fun v16_5 => (k2 (vcalln E.P base m .len [9] [v16_5]) fun v17_6 m => (k1n (mbin E .gtr 3 v17_6 (.int .i64 20)) fun v18_7 => (kb v18_7 (kr (.bool false) m) (k1n (mbin E .add 3 x3 (.int .i64 1)) fun v9_8 => (r12_L0 call fuel base kr kx0 n x0 v9_8 m))))))))) (kx0 m)))) := by
  unfold r12_L0
  rw [k1_fun, vcall_fun]
theorem gtr_nat (i j : Nat) : mbin E .gtr 3 (vi i) (vi j) = some (.bool (decide (j < i))) := by
  rw [i_gtr, show decide ((j : Int) < (i : Int)) = decide (j < i) from decide_eq_decide.2 (by omega)]
theorem geq_nat (i j : Nat) : mbin E .geq 3 (vi i) (vi j) = some (.bool (decide (j ≤ i))) := by
  rw [i_geq, show decide ((j : Int) ≤ (i : Int)) = decide (j ≤ i) from decide_eq_decide.2 (by omega)]
theorem loop12 (call : CallF) (fuel base : Nat) (kr : Value → M → Res2) (kx0 : M → Res2) {m : M} {v : Value} {l : List ByteArray} (hv : Strs m v l) :
    ∀ (n j : Nat), j ≤ 20 → 20 < n + j → r12_L0 call fuel base kr kx0 n v (vi j) m = kr (.bool false) m ∨ r12_L0 call fuel base kr kx0 n v (vi j) m = kx0 m
  | 0, j, hj, hn => by omega
  | n + 1, j, hj, hn => by
    rw [r12_L0_s]
    rcases hv with ⟨rfl, rfl⟩ | ⟨p, row, rfl, hr, hc⟩
    · rw [len22n]
      simp only [k2]
      rw [show (vi 0 : Value) = vi ((0 : Nat) : Int) from rfl, lss_nat, decide_eq_false (by omega)]
      simp only [k1n, kb]
      exact .inr trivial
    · rw [len22]
      simp only [k2, lss_nat, k1n]
      by_cases hlt : j < l.length
      · rw [decide_eq_true hlt]
        simp only [kb]
        rw [show (.int .i64 20 : Value) = vi ((20 : Nat) : Int) from rfl, geq_nat]
        by_cases h20 : 20 ≤ j
        · rw [decide_eq_true h20]
          exact .inl rfl
        · rw [decide_eq_false h20]
          simp only
          rw [ix22 p _ _ j hlt]
          simp only
          rw [ld22c, strs_cell hr hc hlt]
          simp only [len9, gtr_nat]
          by_cases h3 : 20 < (l[j]).size
          · rw [decide_eq_true h3]
            exact .inl rfl
          · rw [decide_eq_false h3, add1 j (by omega)]
            exact loop12 call fuel base kr kx0 (.inr ⟨p, row, rfl, hr, hc⟩) n (j + 1) (by omega) (by omega)
      · rw [decide_eq_false hlt]
        exact .inr rfl
theorem t12 (n base : Nat) {m : M} {v : Value} {l : List ByteArray} (hv : Strs m v l) : ∃ b, rt (n + 22) base 12 [v] m = some (.ret (.bool b), m) := by
  suffices h : ∃ b, r12 (rt (n + 21)) (n + 21) m.length v m = some (.ret (.bool b), m) by
    obtain ⟨b, h⟩ := h
    exact ⟨b, rt_pure (f := 12) (rf := rf12) (by kernel_rfl) (by kernel_rfl) (by kernel_rfl) (n + 21) base _ m m _ h rfl⟩
  unfold r12
  rw [fVal_fun, show (.int .i64 0 : Value) = vi ((0 : Nat) : Int) from rfl]
  rcases loop12 (rt (n + 21)) (n + 21) m.length (fun y2_9 m => some (.ret y2_9, m)) (fun m => some (.ret (.bool true), m)) hv (n + 21) 0 (by omega) (by omega) with h | h
  · exact ⟨false, h⟩
  · exact ⟨true, h⟩
theorem ex0 (a b : Value) : mextract 0 (.tuple #[a, b]) = some a := rfl
theorem ex1 (a b : Value) : mextract 1 (.tuple #[a, b]) = some b := rfl
theorem Strs.keeps {m m' : M} {v : Value} {l : List ByteArray} (h : Strs m v l) (hk : Keeps m.length m m') : Strs m' v l := by
  rcases h with h | ⟨p, row, h1, h2, h3⟩
  · exact .inl h
  · exact .inr ⟨p, row, h1, (hk.2 p (List.getElem?_eq_some_iff.1 h2).1).trans h2, h3⟩
/-- After the region is stored: the cells are read from it. -/
theorem regst (base : Nat) (m : M) (hb : base ≤ m.length) (w h : Nat) (c g : B) : xstore E.P base (m ++ [cellR reg0]) 60 (pt m.length 0) (.agg #[vi w, vi h, vb c, vb g]) = some (m ++ [cellR [vi w, vi h, vb c, vb g]]) := by
  rw [st60 base _ m.length hb reg0 [vi w, vi h, vb c, vb g] rfl rfl rfl (by simp)]
  simp [List.set_append]
theorem regst0 (base : Nat) (m : M) (hb : base ≤ m.length) : xstore E.P base (m ++ [cellR reg0]) 60 (pt m.length 0) (.agg reg0.toArray) = some (m ++ [cellR reg0]) := by
  rw [st60 base _ m.length hb reg0 reg0 rfl rfl rfl (by simp)]
  simp [List.set_append]
theorem regc (m : M) (w h : Nat) (c g : B) : mcell (m ++ [cellR [vi w, vi h, vb c, vb g]]) m.length 2 = some (vb c) := by
  unfold mcell
  simp [cellR]
theorem t15 (n base : Nat) {m : M} {v : Value} {l : List ByteArray} (hb : base ≤ m.length) (hl0 : l.length ≤ 9223372036854775807) (hsz : ∀ b ∈ l, b.size ≤ 9223372036854775807) (hv : Strs m v l) :
    ∃ v' e m', rt (n + 80) base 15 [v] m = some (.ret (.tuple #[v', vi e]), m') ∧ Keeps m.length m m' ∧ (match readB l with
      | none => e = 2
      | some (_, _, c, _) => if canB c = true then e = 0 ∧ Grow 3 m.length m' v' (domsV (ftL 64 c)) (ftL 64 c).length else e = 10) := by
  rw [rt_imp (f := 15) (rf := rf15) (by kernel_rfl) (by kernel_rfl) (by kernel_rfl) (n + 79) base]
  show ∃ v' e m', r15 (rt (n + 79)) (n + 79) base v m = _ ∧ _
  unfold r15
  rw [k1_fun, t41 (n + 67) base v l m hl0 hsz hv]
  simp only [kc, al60]
  cases hr : readB l with
  | none =>
    unfold regV
    simp only [ex0, ex1, k1n, k2]
    rw [regst0 base m hb]
    simp only [ks, mnot, Bool.not_false, kb]
    exact ⟨nilS, 2, _, rfl, Keeps.push _ _ (Nat.le_refl _) _, rfl⟩
  | some x =>
    obtain ⟨w, h, c, g⟩ := x
    unfold regV
    simp only [ex0, ex1, k1n, k2]
    rw [regst base m hb]
    simp only [ks, mnot, Bool.not_true, kb, (fa60 m.length).2.1, ld58, regc]
    rw [t42 (n + 4)]
    simp only [mnot]
    have hk1 : Keeps m.length m (m ++ [cellR [vi w, vi h, vb c, vb g]]) := Keeps.push _ _ (Nat.le_refl _) _
    cases hc : canB c with
    | false =>
      simp only [Bool.not_false]
      exact ⟨nilS, 10, _, rfl, hk1, rfl⟩
    | true =>
      simp only [Bool.not_true, regc]
      obtain ⟨v', m', e, hg, hk⟩ := t43 (n + 3) base m.length hb c (m ++ [cellR [vi w, vi h, vb c, vb g]]) (by simp)
      rw [e]
      exact ⟨v', 0, m', rfl, hk1.trans hk, rfl, hg⟩
theorem t23 (n base : Nat) {m : M} {v : Value} {l : List ByteArray} (hb : base ≤ m.length) (hl0 : l.length ≤ 9223372036854775807) (hsz : ∀ b ∈ l, b.size ≤ 9223372036854775807) (hv : Strs m v l) :
    ∃ v' e m', rt (n + 80) base 23 [v] m = some (.ret (.tuple #[v', vi e]), m') ∧ Keeps m.length m m' ∧ (match readB l with
      | none => e = 2
      | some (_, _, c, _) => if canB c = true then e = 10 else e = 0 ∧ ∃ R, refB c (listB R) = true ∧ Grow 2 m.length m' v' (csV (listB R)) (listB R).length) := by
  rw [rt_imp (f := 23) (rf := rf23) (by kernel_rfl) (by kernel_rfl) (by kernel_rfl) (n + 79) base]
  show ∃ v' e m', r23 (rt (n + 79)) (n + 79) base v m = _ ∧ _
  unfold r23
  rw [k1_fun, t41 (n + 67) base v l m hl0 hsz hv]
  simp only [kc, al60]
  cases hr : readB l with
  | none =>
    unfold regV
    simp only [ex0, ex1, k1n, k2]
    rw [regst0 base m hb]
    simp only [ks, mnot, Bool.not_false, kb]
    exact ⟨nilS, 2, _, rfl, Keeps.push _ _ (Nat.le_refl _) _, rfl⟩
  | some x =>
    obtain ⟨w, h, c, g⟩ := x
    unfold regV
    simp only [ex0, ex1, k1n, k2]
    rw [regst base m hb]
    simp only [ks, mnot, Bool.not_true, kb, (fa60 m.length).2.1, ld58, regc]
    obtain ⟨R, e50, hR, hS⟩ := t50 (n + 4) base c (m ++ [cellR [vi w, vi h, vb c, vb g]])
    rw [e50]
    simp only
    rw [show (.int .u64 0 : Value) = vb 0 from rfl, b_eq]
    have hk1 : Keeps m.length m (m ++ [cellR [vi w, vi h, vb c, vb g]]) := Keeps.push _ _ (Nat.le_refl _) _
    by_cases ha : aloneB c (pairB c) = 0
    · have hc : canB c = true := decide_eq_true ha
      rw [ha, low_zero] at hR
      have h0 := reach_zero hR
      subst h0
      simp only [decide_true, hc, if_true]
      exact ⟨nilS, 10, _, rfl, hk1, rfl⟩
    · have hc : canB c = false := decide_eq_false ha
      obtain ⟨h1, h2⟩ := refusal_ok ha hR hS
      rw [decide_eq_false h2]
      simp only [hc, Bool.false_eq_true, if_false]
      obtain ⟨v', m', e, hg, hk⟩ := t51 (n + 12) base m.length hb R (m ++ [cellR [vi w, vi h, vb c, vb g]]) (by simp)
      rw [e]
      exact ⟨v', 0, m', rfl, hk1.trans hk, rfl, R, h1, hg⟩
/-- Is: what it says. -/
def isR (l : List ByteArray) (f : B → Bool) : Value := match readB l with
  | none => .tuple #[.bool false, vi 2]
  | some (_, _, c, _) => .tuple #[.bool (f c), vi 0]
theorem isR_flat (l : List ByteArray) (f : B → Bool) : vflat (isR l f) = true := by
  unfold isR
  cases readB l with
  | none => rfl
  | some x => rfl
theorem t17 (n base : Nat) {m : M} {v : Value} {l : List ByteArray} (hl0 : l.length ≤ 9223372036854775807) (hsz : ∀ b ∈ l, b.size ≤ 9223372036854775807) (hv : Strs m v l) (u : Value) (t : List Dom) (ht : t.length ≤ 1000) (hu : (t = [] ∧ u = nilS) ∨ ∃ p row, u = sl p t.length ∧ m[p]? = some row ∧ row.cells = dsV t) :
    rt (n + 1010) base 17 [v, u] m = some (.ret (isR l fun c => isT c t), m) := by
  suffices h : ∃ m1, r17 (rt (n + 1009)) (n + 1009) m.length v u m = some (.ret (isR l fun c => isT c t), m1) by
    obtain ⟨m1, h⟩ := h
    exact rt_pure (f := 17) (rf := rf17) (by kernel_rfl) (by kernel_rfl) (by kernel_rfl) (n + 1009) base _ m m1 _ h (isR_flat _ _)
  unfold r17
  rw [k1_fun, t41 (n + 997) m.length v l m hl0 hsz hv]
  simp only [kc, al60]
  unfold isR
  cases hr : readB l with
  | none =>
    unfold regV
    simp only [ex0, ex1, k1n, k2]
    rw [regst0 m.length m (Nat.le_refl _)]
    simp only [ks, mnot, Bool.not_false, kb]
    exact ⟨_, rfl⟩
  | some x =>
    obtain ⟨w, h, c, g⟩ := x
    unfold regV
    simp only [ex0, ex1, k1n, k2]
    rw [regst m.length m (Nat.le_refl _)]
    simp only [ks, mnot, Bool.not_true, kb, (fa60 m.length).2.1, ld58, regc]
    rw [t44 (n + 1007) m.length c (l := t) (by omega) (by omega) _ u (by
      rcases hu with h | ⟨p, row, h1, h2, h3⟩
      · exact .inl h
      · exact .inr ⟨p, row, h1, by rw [List.getElem?_append_left (List.getElem?_eq_some_iff.1 h2).1]; exact h2, h3⟩)]
    exact ⟨_, rfl⟩
theorem t20 (n base : Nat) {m : M} {v : Value} {l : List ByteArray} (hl0 : l.length ≤ 9223372036854775807) (hsz : ∀ b ∈ l, b.size ≤ 9223372036854775807) (hv : Strs m v l) (u : Value) (t : List Cel) (ht : t.length ≤ 1000) (hu : (t = [] ∧ u = nilS) ∨ ∃ p row, u = sl p t.length ∧ m[p]? = some row ∧ row.cells = csV t) :
    rt (n + 1010) base 20 [v, u] m = some (.ret (isR l fun c => refB c t), m) := by
  suffices h : ∃ m1, r20 (rt (n + 1009)) (n + 1009) m.length v u m = some (.ret (isR l fun c => refB c t), m1) by
    obtain ⟨m1, h⟩ := h
    exact rt_pure (f := 20) (rf := rf20) (by kernel_rfl) (by kernel_rfl) (by kernel_rfl) (n + 1009) base _ m m1 _ h (isR_flat _ _)
  unfold r20
  rw [k1_fun, t41 (n + 997) m.length v l m hl0 hsz hv]
  simp only [kc, al60]
  unfold isR
  cases hr : readB l with
  | none =>
    unfold regV
    simp only [ex0, ex1, k1n, k2]
    rw [regst0 m.length m (Nat.le_refl _)]
    simp only [ks, mnot, Bool.not_false, kb]
    exact ⟨_, rfl⟩
  | some x =>
    obtain ⟨w, h, c, g⟩ := x
    unfold regV
    simp only [ex0, ex1, k1n, k2]
    rw [regst m.length m (Nat.le_refl _)]
    simp only [ks, mnot, Bool.not_true, kb, (fa60 m.length).2.1, ld58, regc]
    rw [t46 (n + 1006) m.length c (l := t) (by omega) (by omega) _ u (by
      rcases hu with h | ⟨p, row, h1, h2, h3⟩
      · exact .inl h
      · exact .inr ⟨p, row, h1, by rw [List.getElem?_append_left (List.getElem?_eq_some_iff.1 h2).1]; exact h2, h3⟩)]
    exact ⟨_, rfl⟩
end Go.AM
namespace Go.AM
open Go Go.Proofs
theorem e26 (a b : Int) : mbin E .eql 26 (vi a) (vi b) = some (.bool (decide (a = b))) := by
  have e : mbin E .eql 26 (vi a) (vi b) = some (.bool (a == b)) := by kernel_rfl
  rw [e]
  rfl
theorem n26 (a b : Int) : mbin E .neq 26 (vi a) (vi b) = some (.bool (decide (a ≠ b))) := by
  have e : mbin E .neq 26 (vi a) (vi b) = some (.bool (a != b)) := by kernel_rfl
  rw [e]
  congr 2
  rw [Bool.eq_iff_iff]
  simp
theorem e4 (a b : Bool) : mbin E .eql 4 (.bool a) (.bool b) = some (.bool (a == b)) := by
  cases a <;> cases b <;> kernel_rfl
theorem isR_some {l : List ByteArray} {w h : Nat} {c g : B} (hr : readB l = some (w, h, c, g)) (f : B → Bool) : isR l f = .tuple #[.bool (f c), vi 0] := by
  unfold isR; rw [hr]
theorem e02 : mbin E .eql 26 (vi 0) (vi 2) = some (.bool false) := e26 0 2
theorem ea2 : mbin E .eql 26 (vi 10) (vi 2) = some (.bool false) := e26 10 2
theorem e00 : mbin E .eql 26 (vi 0) (vi 0) = some (.bool true) := e26 0 0
theorem ea0 : mbin E .eql 26 (vi 10) (vi 0) = some (.bool false) := e26 10 0
theorem n00 : mbin E .neq 26 (vi 0) (vi 0) = some (.bool false) := n26 0 0
theorem na0 : mbin E .neq 26 (vi 10) (vi 0) = some (.bool true) := n26 10 0
theorem naa : mbin E .neq 26 (vi 10) (vi 10) = some (.bool false) := n26 10 10
theorem e4tf : mbin E .eql 4 (.bool true) (.bool false) = some (.bool false) := e4 true false
theorem e4ft : mbin E .eql 4 (.bool false) (.bool true) = some (.bool false) := e4 false true
theorem ftL_len : ∀ (d : Nat) (s : B), (ftL d s).length ≤ d
  | 0, _ => Nat.le_refl _
  | d + 1, s => by
    by_cases h : s = 0
    · subst h; exact Nat.zero_le _
    · rw [ftL_succ d s h]
      split
      · have := ftL_len d (s &&& ~~~(low s ||| rightB (low s)))
        simp only [List.length_cons]; omega
      · have := ftL_len d (s &&& ~~~(low s ||| belowB (low s)))
        simp only [List.length_cons]; omega
theorem t7 (n base : Nat) {m : M} {v : Value} {l : List ByteArray} (hb : base ≤ m.length) (hl0 : l.length ≤ 9223372036854775807) (hsz : ∀ b ∈ l, b.size ≤ 9223372036854775807) (hv : Strs m v l) (u : Value) (t : List Cel) (hu : (t = [] ∧ u = nilS) ∨ ∃ p row, u = sl p t.length ∧ m[p]? = some row ∧ row.cells = csV t) :
    ∃ m', rt (n + 1020) base 7 [v, u] m = some (.ret (.bool true), m') := by
  rw [rt_imp (f := 7) (rf := rf7) (by kernel_rfl) (by kernel_rfl) (by kernel_rfl) (n + 1019) base]
  show ∃ m', r7 (rt (n + 1019)) (n + 1019) base v u m = _
  obtain ⟨bf, h12⟩ := t12 (n + 997) base hv
  obtain ⟨v15, e15, m1, h15, k1', f15⟩ := t15 (n + 939) base hb hl0 hsz hv
  have hv1 := hv.keeps k1'
  have hb1 : base ≤ m1.length := Nat.le_trans hb k1'.1
  obtain ⟨v23, e23, m2, h23, k2', f23⟩ := t23 (n + 939) base hb1 hl0 hsz hv1
  have hv2 := hv1.keeps k2'
  have k12 : Keeps m.length m m2 := k1'.trans (k2'.mono k1'.1)
  have hu2 : (t = [] ∧ u = nilS) ∨ ∃ p row, u = sl p t.length ∧ m2[p]? = some row ∧ row.cells = csV t := by
    rcases hu with h | ⟨p, row, h1, h2, h3⟩
    · exact .inl h
    · exact .inr ⟨p, row, h1, (k12.2 p (List.getElem?_eq_some_iff.1 h2).1).trans h2, h3⟩
  have hlen : vcalln E.P base m .len [36] [u] = some (vi t.length, m) := by
    rcases hu with ⟨rfl, rfl⟩ | ⟨p, row, rfl, _, _⟩
    · exact len36n base m
    · exact len36 base m _ _ _
  unfold r7
  rw [k1_fun, vcall_fun, fVal_fun, h12]
  simp only [kc, mnot]
  cases bf with
  | false =>
    simp only [Bool.not_false, k1n, kb]
    rw [rt13]
    exact ⟨m, rfl⟩
  | true =>
    simp only [Bool.not_true, k1n, kb]
    rw [hlen]
    simp only [k2]
    rw [show (.int .i64 100 : Value) = vi ((100 : Nat) : Int) from rfl, gtr_nat]
    by_cases h100 : 100 < t.length
    · rw [decide_eq_true h100]
      simp only
      rw [rt13]
      exact ⟨m, rfl⟩
    · rw [decide_eq_false h100]
      simp only
      rw [h15]
      simp only [ex0, ex1]
      rw [h23]
      simp only [ex0, ex1, show (.int .i64 2 : Value) = vi 2 from rfl, show (.int .i64 0 : Value) = vi 0 from rfl, show (.int .i64 10 : Value) = vi 10 from rfl]
      cases hr : readB l with
      | none =>
        rw [hr] at f15 f23
        simp only at f15 f23
        subst f15
        subst f23
        simp only [e26, decide_true]
        rw [rt13]
        exact ⟨m2, rfl⟩
      | some x =>
        obtain ⟨w, h, c, g⟩ := x
        rw [hr] at f15 f23
        simp only at f15 f23
        have h20 := t20 (n + 9) base hl0 hsz hv2 u t (by omega) hu2
        rw [isR_some hr] at h20
        cases hc : canB c with
        | true =>
          rw [hc] at f15 f23
          simp only [if_true] at f15 f23
          obtain ⟨rfl, hg⟩ := f15
          subst f23
          have hnr : refB c t = false := by
            cases e : refB c t with
            | false => rfl
            | true => have := refutes_sound e; rw [hc] at this; simp at this
          rw [hnr] at h20
          have h17 := t17 (n + 9) base hl0 hsz hv2 v15 ((ftL 64 c).map toDom) (by
            rw [List.length_map]
            have := ftL_len 64 c
            omega) (by
            rcases hg with ⟨h1, h2, h3⟩ | ⟨r, h1, h2, h3, h4, h5⟩
            · left
              rw [List.eq_nil_of_length_eq_zero h1]
              exact ⟨rfl, h2⟩
            · right
              rw [List.length_map]
              exact ⟨r, _, h3, (k2'.2 r (List.getElem?_eq_some_iff.1 h4).1).trans h4, by rw [← doms_eq]; rfl⟩)
          rw [isR_some hr, ft_ok 64 0 c rfl (fun j hj => by omega) hc] at h17
          simp only [e02, ea2, e00, ea0, n00, na0, naa, e4tf, e4ft]
          try simp only [kbu]
          rw [h20]
          simp only [ex0, ex1, n00, kbu, k0, mpick]
          rw [h17]
          simp only [ex0, ex1, e00]
          rw [rt13]
          exact ⟨m2, rfl⟩
        | false =>
          rw [hc] at f15 f23
          simp only [Bool.false_eq_true, if_false] at f15 f23
          subst f15
          obtain ⟨rfl, R, hR, hg⟩ := f23
          have h20b := t20 (n + 9) base hl0 hsz hv2 v23 (listB R) (by
            unfold listB
            rw [List.length_map]
            have := sing_len 64 R
            omega) (by
            rcases hg with ⟨h1, h2, h3⟩ | ⟨r, h1, h2, h3, h4, h5⟩
            · left
              rw [List.eq_nil_of_length_eq_zero h1]
              exact ⟨rfl, h2⟩
            · exact .inr ⟨r, _, h3, h4, rfl⟩)
          rw [isR_some hr, hR] at h20b
          simp only [e02, ea2, e00, ea0, n00, na0, naa, e4tf, e4ft]
          try simp only [kbu]
          rw [h20]
          simp only [ex0, ex1, n00]
          cases hcase : refB c t with
          | true =>
            simp only [kbu, ea0]
            rw [h20b]
            simp only [ex0, ex1, e00]
            rw [rt13]
            exact ⟨m2, rfl⟩
          | false =>
            simp only [kbu, k0, mpick]
            rw [h20b]
            simp only [ex0, ex1, e00]
            rw [rt13]
            exact ⟨m2, rfl⟩
end Go.AM
