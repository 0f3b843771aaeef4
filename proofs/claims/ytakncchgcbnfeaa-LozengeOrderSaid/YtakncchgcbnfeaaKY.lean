import Derived.KernelRfl
import Derived.Laws.BytesArg
import Derived.Laws.StructEq
import Derived.RangeFuncLeaves
import Derived.RangeFuncRecord
import Derived.Test.YtakncchgcbnfeaaProg
import Derived.Test.YtakncchgcbnfeaaRows
import Derived.WalkKit
import Derived.Test.YtakncchgcbnfeaaAmB
import Derived.Test.YtakncchgcbnfeaaAmG
import Derived.Test.YtakncchgcbnfeaaAmModel
import Derived.Test.YtakncchgcbnfeaaAmRel
import Derived.Test.YtakncchgcbnfeaaAmOps6
import Derived.Test.YtakncchgcbnfeaaAmCode
import Derived.Test.YtakncchgcbnfeaaAmDraw5
import Derived.Test.YtakncchgcbnfeaaAmEq
import Derived.Test.YtakncchgcbnfeaaRBase
import Derived.Test.YtakncchgcbnfeaaR81
import Derived.Test.YtakncchgcbnfeaaAmS
import Derived.Test.YtakncchgcbnfeaaS16
import Derived.Test.YtakncchgcbnfeaaLM1
import Derived.Test.YtakncchgcbnfeaaLM3
import Derived.Test.YtakncchgcbnfeaaS48
import Derived.Test.YtakncchgcbnfeaaS49
import Derived.Test.YtakncchgcbnfeaaS50
import Derived.Test.YtakncchgcbnfeaaS17
import Derived.Test.YtakncchgcbnfeaaKB
import Derived.Test.YtakncchgcbnfeaaKX
set_option linter.unusedVariables false
set_option linter.unusedSimpArgs false
set_option linter.unusedSectionVars false
namespace Go.AM
open Go Go.Proofs
theorem gb33n (m : M) : xbuildSlice E.P m 33 1 [(0, nilS)] = some (sl m.length 1, m ++ [rowz 1 true [nilS]]) := by
  have : xbuildSlice E.P m 33 1 [(0, nilS)] = xlen m fun n => xpush m (rowz 1 true [nilS]) fun m' => some (sl n 1, m') := by kernel_rfl
  rw [this, xlen_eq, fNat_eq, xpush_eq, fList_eq]
theorem gg33n {b base : Nat} {m : M} {v : Value} {cs : List Value} {n : Nat} (h : Grow 1 b m v cs n) (hn : n ≤ 1000) (hbb : base ≤ b) (hbm : b ≤ m.length) :
    ∃ v' m', (∀ k : Value → M → Res2, (k2 (xbuildSlice E.P m 33 1 [(0, nilS)]) fun u m => k2 (vcalln E.P base m .append [33, 33] [v, u]) k) = k v' m') ∧ Grow 1 b m' v' (cs ++ [nilS]) (n + 1) ∧ Keeps b m m' ∧
      (∀ i, i < m.length → (∀ n0, v ≠ sl i n0) → m'[i]? = m[i]?) ∧ (∀ i n0, v' = sl i n0 → m.length ≤ i ∧ i < m'.length) := by
  have hk : (m ++ [rowz 1 true [nilS]])[m.length]? = some (rowz 1 true [nilS]) := by simp
  rcases h with ⟨rfl, rfl, rfl⟩ | ⟨r, h1, hb, rfl, hr, hl⟩
  · refine ⟨_, (m ++ [rowz 1 true [nilS]]) ++ [rowz 1 false [nilS]], fun k => ?_, .inr ⟨(m ++ [rowz 1 true [nilS]]).length, by omega, by simp; omega, rfl, ?_, by simp⟩, ?_, fun i hi _ => ?_, fun i n0 e => ?_⟩
    · rw [gb33n]
      simp only [k2]
      rw [ga33e, ga33nil _ _ _ 1 _ _ hk rfl (by omega) (by omega)]
      rfl
    · simp
    · exact (Keeps.push b m hbm _).trans (Keeps.push b _ (by simp; omega) _)
    · rw [List.getElem?_append_left (by simp; omega), List.getElem?_append_left hi]
    · injection e with e1 e2
      simp at e1
      subst e1
      simp
  · have hlt : r < m.length := (List.getElem?_eq_some_iff.1 hr).1
    refine ⟨_, (m ++ [rowz 1 true [nilS]]).set r (rowz 1 false []) ++ [rowz 1 false (cs ++ [nilS])], fun k => ?_, .inr ⟨(m ++ [rowz 1 true [nilS]]).length, by omega, by simp; omega, rfl, ?_, by simp [hl, Nat.add_mul]⟩, ?_, fun i hi hv => ?_, fun i n0 e => ?_⟩
    · rw [gb33n]
      simp only [k2]
      rw [ga33e, ga33some _ _ r n _ 1 _ false cs (rowz 1 true [nilS]) (by rw [List.getElem?_append_left hlt]; exact hr) hl (.inr h1) (by omega) (by omega) (by omega) (by omega) hk rfl rfl]
      rfl
    · simp
    · exact ((Keeps.push b m hbm _).trans (Keeps.set b _ r _ hb)).trans (Keeps.push b _ (by simp; omega) _)
    · have : r ≠ i := fun e => hv n (by rw [e])
      rw [List.getElem?_append_left (by simp; omega), List.getElem?_set_ne this, List.getElem?_append_left hi]
    · injection e with e1 e2
      simp at e1
      subst e1
      simp
theorem gaw27 (base : Nat) (m : M) (r k off c : Nat) (row : Row) (cs : List Value) (hr : m[r]? = some (rowz 1 true [])) (h1 : 1 ≤ c) (h3 : c ≤ 100000) (hk : m[k]? = some row) (hc : (row.cells.drop off).take c = cs) (hl : cs.length = c) :
    vcalln E.P base m .append [27, 27] [sl r 0, .slice (some ⟨k, off, some 2⟩) c 4] = some (sl m.length c, m ++ [rowz 1 false cs]) := by
  have e : xappend E.P base m [27, 27] (sl r 0) (.slice (some ⟨k, off, some 2⟩) c 4) = match (xread m k off (c * 1)).map fun cs => (c, cs) with
    | none => none
    | some (n, news) =>
      if 0 + n ≤ 0 then if n = 0 then some (.slice (some ⟨r, 0, none⟩) 0 0, m) else
        (xwrite base m r (0 + 0 * 1) news).bind fun m' => fNat (0 + n) fun k => some (.slice (some ⟨r, 0, none⟩) k 0, m')
      else if 0 + n > 2 ^ 38 then none else
        match xget m r, xread m r 0 (0 * 1) with
        | some row, some olds =>
          if row.esz ≠ 1 then none else
          xlen m fun k => fNat (0 + n) fun c => fList (olds ++ news) fun cs =>
          if row.ex then xpush m (rowz 1 false cs) fun m' => some (.slice (some ⟨k, 0, none⟩) c c, m')
          else if row.cells.isEmpty then none
          else if news.all (·.oneCell') then xkill base m r fun m' => xpush m' (rowz 1 false cs) fun m' => some (.slice (some ⟨k, 0, none⟩) c c, m')
          else none
        | _, _ => none := by kernel_rfl
  have hcl : off + c ≤ row.cells.length := by
    have := congrArg List.length hc
    rw [List.length_take, List.length_drop, hl] at this
    omega
  have q1 : xread m k off (c * 1) = some cs := by
    rw [xread_eq, Nat.mul_one, mread_at hk hcl, hc]
  have q2 : xread m r 0 (0 * 1) = some [] := by
    rw [xread_eq, mread_at hr (by simp)]
    rfl
  rw [ga27e, e, q1, q2, xget_eq, hr]
  simp only [Option.map_some]
  rw [if_neg (by omega), if_neg (by omega), if_neg (by simp [rowz]), xlen_eq, fNat_eq, fNat_eq, fList_eq, if_pos (by simp [rowz]), xpush_eq, fList_eq, Nat.zero_add, List.nil_append]
theorem gb27z (m : M) : xbuildSlice E.P m 27 0 [] = some (sl m.length 0, m ++ [rowz 1 true []]) := by
  have : xbuildSlice E.P m 27 0 [] = xlen m fun n => xpush m (rowz 1 true []) fun m' => some (sl n 0, m') := by kernel_rfl
  rw [this, xlen_eq, fNat_eq, xpush_eq, fList_eq]
theorem t84 (N base : Nat) {m : M} {k off c : Nat} {row : Row} {cs : List Value} (h1 : 1 ≤ c) (h3 : c ≤ 100000) (hk : m[k]? = some row) (hc : (row.cells.drop off).take c = cs) (hl : cs.length = c) :
    rt (N + 1) base 84 [.slice (some ⟨k, off, some 2⟩) c 4] m = some (.ret (sl (m.length + 1) c), m ++ [rowz 1 true []] ++ [rowz 1 false cs]) := by
  rw [rt_imp (f := 84) (rf := rf84) (by kernel_rfl) (by kernel_rfl) (by kernel_rfl)]
  show r84 (rt N) N base (.slice (some ⟨k, off, some 2⟩) c 4) m = _
  have e0 : mbin E .eql 27 (.slice (some ⟨k, off, some 2⟩) c 4) (.slice none 0 0) = some (.bool false) := by kernel_rfl
  have hkl := (List.getElem?_eq_some_iff.1 hk).1
  unfold r84
  rw [k1_fun, fVal_fun, vcall_fun, e0, k1s, kbf, gb27z, k2s, gaw27 base _ m.length k off c row cs (by simp) h1 h3 (by rw [List.getElem?_append_left hkl]; exact hk) hc hl, k2s]
  simp
theorem kB_keeps {m m' : M} {v : Value} (h : Keeps m.length m m') : kB m (some (.ret v, m')) = some (.ret v, m') := by
  have e : m ++ m'.drop m.length = m' := by
    apply List.ext_getElem?
    intro i
    by_cases hi : i < m.length
    · rw [List.getElem?_append_left hi, h.2 i hi]
    · rw [List.getElem?_append_right (by omega), List.getElem?_drop]
      congr 1
      omega
  simp only [kB, fList_eq, e]
end Go.AM
namespace Go.AM
open Go Go.Proofs
theorem sw76 (m : M) (p o j : Nat) (h : j ≤ 4) : mslice E.P m 76 (pt p o) none (some (vi j)) none = some (.slice (some ⟨p, o, some 2⟩) j 4) := by
  have e : mslice E.P m 76 (pt p o) none (some (vi j)) none = match (none : Option Value), optNat 4 (some (vi j)), some 1 with
    | none, some h, some _ => if h ≤ 4 then some (.slice (some ⟨p, o, some 2⟩) h 4) else none
    | _, _, _ => none := by kernel_rfl
  rw [e]
  have e2 : optNat 4 (some (vi j)) = some j := by simp [optNat, vi]
  rw [e2]
  simp [h]
theorem rep_nil (n : Nat) : repCells [.slice none 0 0] n = List.replicate n nilS := by
  induction n with
  | zero => rfl
  | succ n ih =>
    rw [show repCells [.slice none 0 0] (n + 1) = [.slice none 0 0] ++ repCells [.slice none 0 0] n from rfl, ih, List.replicate_succ]
    rfl
def outC (ps : List Nat) (b a : Nat) : List Value := (ps.map fun p => sl p b) ++ List.replicate (a - ps.length) nilS
theorem outC_set {ps : List Nat} {b a : Nat} (h : ps.length < a) (q : Nat) : (outC ps b a).set ps.length (sl q b) = outC (ps ++ [q]) b a := by
  unfold outC
  rw [List.set_append_right _ _ (by simp), List.length_map, Nat.sub_self, show a - ps.length = (a - (ps.length + 1)) + 1 by omega, List.replicate_succ, List.set_cons_zero, List.map_append, List.length_append]
  simp
theorem outC_len {ps : List Nat} {b a : Nat} (h : ps.length ≤ a) : (outC ps b a).length = a := by simp [outC]; omega
theorem rwC_take {g : Nat → Int} {b : Nat} (h : b ≤ 4) : (rwC g).take b = rowF b g := by
  have : b = 0 ∨ b = 1 ∨ b = 2 ∨ b = 3 ∨ b = 4 := by omega
  rcases this with rfl | rfl | rfl | rfl | rfl <;> rfl
theorem plC_part {A B C : Int} {f : Nat → Nat → Int} {i b : Nat} (hi : i < 4) (hb : b ≤ 4) : ((plC A B C f).drop (3 + i * 4)).take b = rowF b (f i) := by
  rw [← rwC_take hb, ← plC_row (A := A) (B := B) (C := C) (f := f) hi, List.take_take, Nat.min_eq_left hb]
theorem loop60 (N fuel base : Nat) (kx : Value → M → Res2) {a b : Nat} {C : Int} (ha : a ≤ 4) (hb : 1 ≤ b ∧ b ≤ 4) {p1 o : Nat} (hp1 : p1 < o) (ho : base ≤ o) {f : Nat → Nat → Int} :
    ∀ (n i : Nat) (m : M) (ps : List Nat), ps.length = i → i ≤ a → a < n + i → m[p1]? = some (cellR (plC a b C f)) → m[o]? = some (rowz 1 true (outC ps b a)) → (∀ k p, ps[k]? = some p → o < p ∧ m[p]? = some (rowz 1 false (rowF b (f k)))) → (∀ (i j : Nat) p, ps[i]? = some p → ps[j]? = some p → i = j) →
      ∃ m' ps', HM o m' o ps' a b f ∧ Keeps o m m' ∧ r60_L0 (rt (N + 1)) fuel base kx n (pt p1 0) (sl o a) (vi a) (vi i) m = kx (sl o a) m'
  | 0, i, m, ps, h0, hi, hn, _, _, _, _ => by omega
  | n + 1, i, m, ps, h0, hi, hn, hp, hO, hr, hj => by
    rw [r60_L0_s, lss_nat, k1s]
    by_cases hlt : i < a
    · have lo := (List.getElem?_eq_some_iff.1 hO).1
      have e84 := t84 N m.length (m := m) (k := p1) (off := 3 + i * 4) (c := b) hb.1 (by omega) hp (plC_part (by omega) hb.2) (rowF_len b (f i))
      have hK : Keeps m.length m (m ++ [rowz 1 true []] ++ [rowz 1 false (rowF b (f i))]) := (Keeps.push _ _ (Nat.le_refl _) _).trans (Keeps.push _ _ (by simp) _)
      obtain ⟨m1, hm1⟩ : ∃ m1 : M, m1 = m ++ [rowz 1 true []] ++ [rowz 1 false (rowF b (f i))] := ⟨_, rfl⟩
      have l1 : m1.length = m.length + 2 := by simp [hm1]
      rw [← hm1] at hK e84
      have hO1 := (hK.2 o lo).trans hO
      have hnew : m1[m.length + 1]? = some (rowz 1 false (rowF b (f i))) := by
        rw [hm1, show m.length + 1 = (m ++ [rowz 1 true []]).length by simp]
        simp
      have hset := set_eq (r := rowz 1 true (outC (ps ++ [m.length + 1]) b a)) hO1
      obtain ⟨m2, ps2, H2, K2, e2⟩ := loop60 N fuel base kx ha hb hp1 ho n (i + 1) (m1.set o (rowz 1 true (outC (ps ++ [m.length + 1]) b a))) (ps ++ [m.length + 1]) (by simp [h0]) (by omega) (by omega) (by rw [set_ne rfl (by omega), hK.2 p1 (by omega)]; exact hp) hset (fun k p hk => by
          by_cases hk2 : k < ps.length
          · rw [List.getElem?_append_left hk2] at hk
            obtain ⟨c1, c2⟩ := hr k p hk
            have := (List.getElem?_eq_some_iff.1 c2).1
            exact ⟨c1, by rw [set_ne rfl (by omega), hK.2 p this]; exact c2⟩
          · have h3 := (List.getElem?_eq_some_iff.1 hk).1
            simp at h3
            have h4 : k = ps.length := by omega
            rw [h4, List.getElem?_append_right (Nat.le_refl _), Nat.sub_self] at hk
            simp at hk
            subst hk
            exact ⟨by omega, by rw [set_ne rfl (by omega), h4, h0]; exact hnew⟩) (fun x y p hx hy => by
          have key : ∀ x, (ps ++ [m.length + 1])[x]? = some p → (x < ps.length ∧ ps[x]? = some p) ∨ (x = ps.length ∧ p = m.length + 1) := by
            intro x hx
            by_cases h1 : x < ps.length
            · rw [List.getElem?_append_left h1] at hx; exact .inl ⟨h1, hx⟩
            · have h3 := (List.getElem?_eq_some_iff.1 hx).1
              simp at h3
              have h4 : x = ps.length := by omega
              rw [h4, List.getElem?_append_right (Nat.le_refl _), Nat.sub_self] at hx
              simp at hx
              exact .inr ⟨h4, hx.symm⟩
          have old : ∀ x, ps[x]? = some p → p < m.length := fun x hx => (List.getElem?_eq_some_iff.1 (hr x p hx).2).1
          rcases key x hx with ⟨_, q1⟩ | ⟨q1, q2⟩ <;> rcases key y hy with ⟨_, q3⟩ | ⟨q3, q4⟩
          · exact hj x y p q1 q3
          · have := old x q1; omega
          · have := old y q3; omega
          · omega)
      refine ⟨m2, ps2, H2, ((hK.mono (by omega)).trans (Keeps.set _ _ _ _ (Nat.le_refl _))).trans K2, ?_⟩
      rw [decide_eq_true hlt, kbt, ff79_1, k1s, ixp77 _ _ i (by omega), k1s, ff79_0, k1s, ff23_1, k1s, ld3]
      simp only [Nat.zero_add, Nat.add_zero]
      rw [box_cell hp 1 (vi b) rfl, k1s, sw76 m p1 (3 + i * 4) b hb.2, k1s, e84, kB_keeps hK, kcs, ix33 o a a i hlt, k1s, st27, mwrite_one ho hO1 rfl (by show i < (outC ps b a).length; rw [outC_len (by omega)]; exact hlt) rfl, kss, add1 i (by omega), k1s]
      have hs : (rowz 1 true (outC ps b a)).cells.set i (sl (m.length + 1) b) = outC (ps ++ [m.length + 1]) b a := by
        rw [← h0]
        exact outC_set (by omega) _
      rw [hs]
      exact e2
    · have e : i = a := by omega
      rw [decide_eq_false hlt, kbf]
      refine ⟨m, ps, ⟨⟨true, ?_⟩, Nat.le_refl _, by omega, fun k p hk => ?_, hj⟩, Keeps.refl _ _, rfl⟩
      · rw [hO]
        unfold outC
        rw [h0, e, Nat.sub_self]
        simp
      · obtain ⟨c1, c2⟩ := hr k p hk
        exact ⟨by omega, by omega, false, c2⟩
theorem t60 (N base : Nat) {m : M} (hbm : base ≤ m.length) {a b : Nat} (C : Int) (ha : 1 ≤ a ∧ a ≤ 4) (hb : 1 ≤ b ∧ b ≤ 4) (hN : 5 ≤ N) (f : Nat → Nat → Int) :
    ∃ o ps m', HM m.length m' o ps a b f ∧ Keeps m.length m m' ∧ rt (N + 2) base 60 [plV a b C f] m = some (.ret (sl o a), m') := by
  obtain ⟨m1, hm1⟩ : ∃ m1 : M, m1 = m ++ [cellR (plC a b C f)] ++ [rowz 1 true (repCells [.slice none 0 0] a)] := ⟨_, rfl⟩
  have la : (m ++ [cellR (plC a b C f)]).length = m.length + 1 := by simp
  have g0 : m1[m.length]? = some (cellR (plC a b C f)) := by rw [hm1, List.getElem?_append_left (by omega)]; exact get_new
  have g1 : m1[m.length + 1]? = some (rowz 1 true (outC [] b a)) := by
    rw [hm1, ← la, rep_nil]
    simp [outC]
  obtain ⟨m2, ps, H, K, e⟩ := loop60 N (N + 1) base (fun y3 m => some (.ret y3, m)) (C := C) ha.2 hb (p1 := m.length) (o := m.length + 1) (by omega) (by omega) (f := f) (N + 1) 0 m1 [] rfl (Nat.zero_le _) (by omega) g0 g1 (fun k p h => by simp at h) (fun i j p h => by simp at h)
  refine ⟨m.length + 1, ps, m2, ⟨H.out, by omega, H.len, fun i p hi => ?_, H.inj⟩, ((Keeps.push _ _ (Nat.le_refl _) _).trans (Keeps.push _ _ (by simp) _)).trans (by rw [← hm1]; exact K.mono (by omega)), ?_⟩
  · obtain ⟨c1, c2, c3⟩ := H.row i p hi
    exact ⟨by omega, c2, c3⟩
  · rw [rt_imp (f := 60) (rf := rf60) (by kernel_rfl) (by kernel_rfl) (by kernel_rfl)]
    show r60 (rt (N + 1)) (N + 1) base (plV a b C f) m = _
    have g0' : (m ++ [cellR (plC a b C f)])[m.length]? = some (cellR (plC a b C f)) := get_new
    unfold r60
    rw [k1_fun, fVal_fun, vcall_fun, bx79, k2s, ff79_0, k1s, ff23_0, k1s, ld3]
    simp only [Nat.add_zero]
    rw [box_cell g0' 0 (vi a) rfl, k1s, mk33 _ a (by omega), k2s, ← hm1, la, len33, k2s, show (.int .i64 0 : Value) = vi (0 : Nat) from rfl]
    exact e
end Go.AM
namespace Go.AM
open Go Go.Proofs
theorem loop26i (call : CallF) (fuel base : Nat) (kr : Value → M → Res2) (kx : Value → Value → Value → M → Res2) {m : M} {v w : Value} {F H : List (List Int)} (hv : Mats m v F) (hw : Mats m w H) {i : Nat} (h1 : i < F.length) (h2 : i < H.length) (hl : (hrow F i).length = (hrow H i).length) (hs : (hrow F i).length ≤ 1000) :
    ∀ (n j : Nat), j ≤ (hrow F i).length → (hrow F i).length < n + j → r26_L2 call fuel base kr kx n v w (vi i) (vi j) m = if (hrow F i).drop j = (hrow H i).drop j then kx v w (vi i) m else kr (.bool false) m
  | 0, j, hj, hn => by omega
  | n + 1, j, hj, hn => by
    obtain ⟨u, hu, eu⟩ := hv.getD h1
    obtain ⟨z, hz, ez⟩ := hw.getD h2
    rw [r26_L2_s, eu, hu.len, k2s, lss_nat, k1s]
    by_cases hlt : j < (hrow F i).length
    · rw [decide_eq_true hlt, kbt, eu, hu.getD hlt, ez, hz.getD (show j < (hrow H i).length by omega), neq3, k1s, drop_eq _ j hlt, drop_eq (hrow H i) j (by omega)]
      by_cases he : hcl F i j = hcl H i j
      · rw [decide_eq_true he, show (!true) = false from rfl, kbf, add1 j (by omega), k1s, loop26i call fuel base kr kx hv hw h1 h2 hl hs n (j + 1) (by omega) (by omega)]
        have e : (hrow F i).getD j 0 = (hrow H i).getD j 0 := he
        rw [e]
        simp only [List.cons.injEq, true_and]
      · rw [decide_eq_false he, show (!false) = true from rfl, kbt, if_neg]
        intro h
        simp only [List.cons.injEq] at h
        exact he h.1
    · rw [decide_eq_false hlt, kbf, List.drop_eq_nil_of_le (by omega), List.drop_eq_nil_of_le (by omega), if_pos rfl]
theorem loop26 (call : CallF) (fuel base : Nat) (kr : Value → M → Res2) (kx : M → Res2) {m : M} {v w : Value} {F H : List (List Int)} (hv : Mats m v F) (hw : Mats m w H) (hFH : F.length = H.length) (hl : ∀ i, i < F.length → (hrow F i).length ≤ 1000 ∧ (hrow F i).length < fuel) (hs : F.length ≤ 1000) :
    ∀ (n i : Nat), i ≤ F.length → F.length < n + i → r26_L0 call fuel base kr kx n v w (vi i) m = if F.drop i = H.drop i then kx m else kr (.bool false) m
  | 0, i, hi, hn => by omega
  | n + 1, i, hi, hn => by
    rw [r26_L0_s, hv.len, k2s, lss_nat, k1s]
    by_cases hlt : i < F.length
    · obtain ⟨c2, c3⟩ := hl i hlt
      obtain ⟨u, hu, eu⟩ := hv.getD hlt
      obtain ⟨z, hz, ez⟩ := hw.getD (show i < H.length by omega)
      rw [decide_eq_true hlt, kbt, eu, hu.len, k2s, ez, hz.len, k2s, neq3, k1s, natdec, drop_eqL F i hlt, drop_eqL H i (by omega)]
      by_cases hlen : (F.getD i []).length = (H.getD i []).length
      · rw [decide_eq_true hlen, show (!true) = false from rfl, kbf, show (.int .i64 0 : Value) = vi ((0 : Nat) : Int) from rfl, loop26i call fuel base _ _ hv hw hlt (by omega) hlen c2 fuel 0 (Nat.zero_le _) (by omega), List.drop_zero, List.drop_zero]
        by_cases he : hrow F i = hrow H i
        · rw [if_pos he, add1 i (by omega), k1s, loop26 call fuel base kr kx hv hw hFH hl hs n (i + 1) (by omega) (by omega), he]
          simp only [List.cons.injEq, true_and]
        · rw [if_neg he, if_neg]
          intro h
          simp only [List.cons.injEq] at h
          exact he h.1
      · rw [decide_eq_false hlen, show (!false) = true from rfl, kbt, if_neg]
        intro h
        simp only [List.cons.injEq] at h
        exact hlen (congrArg List.length h.1)
    · rw [decide_eq_false hlt, kbf, List.drop_eq_nil_of_le (by omega), List.drop_eq_nil_of_le (by omega), if_pos rfl]
theorem t26 (n base : Nat) {m : M} {v w : Value} {F H : List (List Int)} (hv : Mats m v F) (hw : Mats m w H) (hl : ∀ i, i < F.length → (hrow F i).length ≤ 1000 ∧ (hrow F i).length < n) (hs : F.length ≤ 1000) (hn : F.length < n) :
    rt (n + 1) base 26 [v, w] m = some (.ret (.bool (decide (F = H))), m) := by
  refine rt_pure (f := 26) (rf := rf26) (by kernel_rfl) (by kernel_rfl) (by kernel_rfl) n base _ m m _ ?_ rfl
  show r26 (rt n) n m.length v w m = _
  unfold r26
  rw [k1_fun, fVal_fun, vcall_fun, hv.len, k2s, hw.len, k2s, neq3, k1s, natdec]
  by_cases h : F.length = H.length
  · rw [decide_eq_true h, show (!true) = false from rfl, kbf, show (.int .i64 0 : Value) = vi ((0 : Nat) : Int) from rfl, loop26 (rt n) n m.length _ _ hv hw h hl hs n 0 (Nat.zero_le _) (by omega), List.drop_zero, List.drop_zero]
    by_cases he : F = H
    · rw [if_pos he, decide_eq_true he]
    · rw [if_neg he, decide_eq_false he]
  · rw [decide_eq_false h, show (!false) = true from rfl, kbt, decide_eq_false (fun e => h (by rw [e]))]
/-- A copy that grows: rows of their own, or nil. -/
structure CG (B : Nat) (m : M) (v : Value) (us : List Value) (Hs : List (List Int)) : Prop where
  grow : Grow 1 B m v us us.length
  len : us.length = Hs.length
  row : ∀ (i : Nat) (u : Value), us[i]? = some u → ∃ l : List Int, Hs[i]? = some l ∧ ((l = [] ∧ u = nilS) ∨ ∃ p, u = sl p l.length ∧ l ≠ [] ∧ B ≤ p ∧ (∀ n, v ≠ sl p n) ∧ m[p]? = some (rowz 1 false (l.map vi)))
  inj : ∀ (i j : Nat) (p n n' : Nat), us[i]? = some (sl p n) → us[j]? = some (sl p n') → i = j
theorem gg33g {b base : Nat} {m : M} {v : Value} {cs : List Value} {n : Nat} (h : Grow 1 b m v cs n) (hn : n ≤ 1000) (hbb : base ≤ b) (hbm : b ≤ m.length) {u : Value} (hu : u = nilS ∨ ∃ p l, u = sl p l) :
    ∃ v' m', (∀ k : Value → M → Res2, (k2 (xbuildSlice E.P m 33 1 [(0, u)]) fun u m => k2 (vcalln E.P base m .append [33, 33] [v, u]) k) = k v' m') ∧ Grow 1 b m' v' (cs ++ [u]) (n + 1) ∧ Keeps b m m' ∧
      (∀ i, i < m.length → (∀ n0, v ≠ sl i n0) → m'[i]? = m[i]?) ∧ (∀ i n0, v' = sl i n0 → m.length ≤ i ∧ i < m'.length) := by
  rcases hu with rfl | ⟨p, l, rfl⟩
  · exact gg33n h hn hbb hbm
  · exact gg33 h hn hbb hbm p l l
theorem Grow.ne {B : Nat} {m : M} {v : Value} {cs : List Value} {n : Nat} (h : Grow 1 B m v cs n) {x : Nat} (hx : x < B ∨ m.length ≤ x) (k : Nat) : v ≠ sl x k := by
  rcases h with ⟨_, e, _⟩ | ⟨r, _, hb, e, hr, _⟩
  · rw [e]; simp
  · rw [e]
    have := (List.getElem?_eq_some_iff.1 hr).1
    intro e2
    injection e2 with e3 _ _
    injection e3 with e4
    injection e4 with e5
    omega
/-- One row more, that is there already. -/
theorem CG.more {B base : Nat} {m : M} {v : Value} {us : List Value} {Hs : List (List Int)} (h : CG B m v us Hs) (hB : base ≤ B) (hBm : B ≤ m.length) (hl : us.length ≤ 1000) {u : Value} {l : List Int} (hu : (l = [] ∧ u = nilS) ∨ ∃ p, u = sl p l.length ∧ l ≠ [] ∧ B ≤ p ∧ (∀ n, v ≠ sl p n) ∧ (∀ n, sl p n ∉ us) ∧ m[p]? = some (rowz 1 false (l.map vi))) :
    ∃ v' m', (∀ k : Value → M → Res2, (k2 (xbuildSlice E.P m 33 1 [(0, u)]) fun u m => k2 (vcalln E.P base m .append [33, 33] [v, u]) k) = k v' m') ∧ CG B m' v' (us ++ [u]) (Hs ++ [l]) ∧ Keeps B m m' := by
  obtain ⟨v', m', e, G, hk, hoth, hnv⟩ := gg33g h.grow hl hB hBm (u := u) (by
    rcases hu with ⟨_, h⟩ | ⟨p, h, _⟩
    · exact .inl h
    · exact .inr ⟨p, _, h⟩)
  have hfresh : ∀ q, q < m.length → ∀ n, v' ≠ sl q n := fun q hq n e => by have := (hnv q n e).1; omega
  have key : ∀ {i : Nat} {x : Value}, (us ++ [u])[i]? = some x → (i < us.length ∧ us[i]? = some x) ∨ (i = us.length ∧ x = u) := by
    intro i x hi
    by_cases h1 : i < us.length
    · rw [List.getElem?_append_left h1] at hi; exact .inl ⟨h1, hi⟩
    · have h3 := (List.getElem?_eq_some_iff.1 hi).1
      simp at h3
      have h4 : i = us.length := by omega
      rw [h4, List.getElem?_append_right (Nat.le_refl _), Nat.sub_self] at hi
      simp at hi
      exact .inr ⟨h4, hi.symm⟩
  refine ⟨v', m', e, ⟨by rw [List.length_append]; exact G, by simp [h.len], fun i x hx => ?_, fun i j p n n' hi hj => ?_⟩, hk⟩
  · rcases key hx with ⟨q1, q2⟩ | ⟨q1, rfl⟩
    · obtain ⟨l', a1, a2⟩ := h.row i x q2
      refine ⟨l', by rw [List.getElem?_append_left (by rw [← h.len]; exact q1)]; exact a1, ?_⟩
      rcases a2 with a2 | ⟨p, b1, b2, b3, b4, b5⟩
      · exact .inl a2
      · have := (List.getElem?_eq_some_iff.1 b5).1
        exact .inr ⟨p, b1, b2, b3, hfresh p this, (hoth p this b4).trans b5⟩
    · refine ⟨l, by rw [q1, h.len, List.getElem?_append_right (Nat.le_refl _), Nat.sub_self]; rfl, ?_⟩
      rcases hu with hu | ⟨p, b1, b2, b3, b4, _, b5⟩
      · exact .inl hu
      · have := (List.getElem?_eq_some_iff.1 b5).1
        exact .inr ⟨p, b1, b2, b3, hfresh p this, (hoth p this b4).trans b5⟩
  · have new : ∀ {x : Nat} {k : Nat}, x < us.length → us[x]? = some (sl p k) → u = sl p n ∨ u = sl p n' → False := by
      intro x k _ hx hu2
      rcases hu with ⟨_, hu⟩ | ⟨p', b1, _, _, _, b4, _⟩
      · rw [hu] at hu2; simp at hu2
      · have : p' = p := by
          rw [b1] at hu2
          rcases hu2 with hu2 | hu2 <;> (injection hu2 with e3 _ _; injection e3 with e4; injection e4 with e5)
        subst this
        exact b4 k (List.mem_of_getElem? hx)
    rcases key hi with ⟨q1, q2⟩ | ⟨q1, q2⟩ <;> rcases key hj with ⟨q3, q4⟩ | ⟨q3, q4⟩
    · exact h.inj i j p n n' q2 q4
    · exact (new q1 q2 (.inr q4.symm)).elim
    · exact (new q3 q4 (.inl q2.symm)).elim
    · omega
/-- A copy of a row. -/
theorem ap27 (base : Nat) {m : M} {u : Value} {l : List Int} (hu : Ints m u l) (hs : l.length ≤ 1000) : (l = [] ∧ vcalln E.P base m .append [27, 27] [.slice none 0 0, u] = some (nilS, m)) ∨ (l ≠ [] ∧ vcalln E.P base m .append [27, 27] [.slice none 0 0, u] = some (sl m.length l.length, m ++ [rowz 1 false (l.map vi)])) := by
  rcases hu with ⟨rfl, rfl | rfl⟩ | ⟨p, off, c, row, rfl, hc, hr, he, ho, hcs⟩
  · exact .inl ⟨rfl, by kernel_rfl⟩
  · exact .inl ⟨rfl, by kernel_rfl⟩
  · have e : vcalln E.P base m .append [27, 27] [.slice none 0 0, slo p off l.length c] = match (xread m p off (l.length * 1)).map fun cs => (l.length, cs) with
      | none => none
      | some (n, news) => if n = 0 then some (.slice none 0 0, m) else if n > 2 ^ 38 then none else xlen m fun k => fList news fun cs => xpush m (rowz 1 false cs) fun m' => some (.slice (some ⟨k, 0, none⟩) n n, m') := by kernel_rfl
    have hread : (row.cells.drop off).take l.length = l.map vi := by
      apply List.ext_getElem?
      intro j
      by_cases hj : j < l.length
      · rw [List.getElem?_take_of_lt hj, List.getElem?_drop, hcs j hj, List.getElem?_map, List.getElem?_eq_getElem hj]; rfl
      · rw [List.getElem?_eq_none (by rw [List.length_take]; omega), List.getElem?_eq_none (by rw [List.length_map]; omega)]
    have q1 : xread m p off (l.length * 1) = some (l.map vi) := by
      rw [xread_eq, Nat.mul_one, mread_at hr ho, hread]
    rw [e, q1]
    simp only [Option.map_some]
    by_cases h0 : l = []
    · subst h0
      exact .inl ⟨rfl, rfl⟩
    · have : l.length ≠ 0 := fun h => h0 (List.eq_nil_of_length_eq_zero h)
      rw [if_neg this, if_neg (by omega), xlen_eq, fNat_eq, fList_eq, xpush_eq, fList_eq]
      exact .inr ⟨h0, rfl⟩
theorem loop21 (call : CallF) (fuel base : Nat) (kx : Value → M → Res2) {m0 : M} {v0 : Value} {H : List (List Int)} (hv : Mats m0 v0 H) (hs : H.length ≤ 1000) (hr : ∀ l ∈ H, l.length ≤ 1000) (hbase : base ≤ m0.length) :
    ∀ (n i : Nat) (m : M) (v : Value) (us : List Value), i ≤ H.length → H.length < n + i → Keeps m0.length m0 m → CG m0.length m v us (H.take i) →
      ∃ m' v' us', Keeps m0.length m0 m' ∧ CG m0.length m' v' us' H ∧ r21_L0 call fuel base kx n v0 v (vi i) m = kx v' m'
  | 0, i, m, v, us, hi, hn, _, _ => by omega
  | n + 1, i, m, v, us, hi, hn, hK, hC => by
    have hus : us.length = i := by rw [hC.len, List.length_take]; omega
    rw [r21_L0_s, (hv.keeps hK).len, k2s, lss_nat, k1s]
    by_cases hlt : i < H.length
    · obtain ⟨u, hu, eu⟩ := hv.getK hK hlt
      have hui := hu.keeps hK
      have hrow : H[i]? = some (H.getD i []) := getDs hlt []
      have hlen := hr _ (List.mem_of_getElem? hrow)
      have etake : H.take (i + 1) = H.take i ++ [H.getD i []] := by rw [List.take_add_one, hrow]; rfl
      rw [decide_eq_true hlt, kbt, eu]
      rcases ap27 base hui hlen with ⟨h0, e1⟩ | ⟨h0, e1⟩
      · rw [e1, k2s]
        obtain ⟨v', m', e2, C2, K2⟩ := hC.more (base := base) hbase hK.1 (by omega) (u := nilS) (l := H.getD i []) (.inl ⟨h0, rfl⟩)
        rw [e2, add1 i (by omega), k1s]
        exact loop21 call fuel base kx hv hs hr hbase n (i + 1) m' v' _ (by omega) (by omega) (hK.trans K2) (by rw [etake]; exact C2)
      · rw [e1, k2s]
        have C1 : CG m0.length (m ++ [rowz 1 false ((H.getD i []).map vi)]) v us (H.take i) := by
          refine ⟨?_, hC.len, fun j x hx => ?_, hC.inj⟩
          · rcases hC.grow with g | ⟨r, a1, a2, a3, a4, a5⟩
            · exact .inl g
            · exact .inr ⟨r, a1, a2, a3, by rw [List.getElem?_append_left (List.getElem?_eq_some_iff.1 a4).1]; exact a4, a5⟩
          · obtain ⟨l', a1, a2⟩ := hC.row j x hx
            refine ⟨l', a1, ?_⟩
            rcases a2 with a2 | ⟨p, b1, b2, b3, b4, b5⟩
            · exact .inl a2
            · exact .inr ⟨p, b1, b2, b3, b4, by rw [List.getElem?_append_left (List.getElem?_eq_some_iff.1 b5).1]; exact b5⟩
        obtain ⟨v', m', e2, C2, K2⟩ := C1.more (base := base) hbase (by have := hK.1; simp; omega) (by omega) (u := sl m.length (H.getD i []).length) (l := H.getD i []) (.inr ⟨m.length, rfl, h0, hK.1, fun n => hC.grow.ne (.inr (Nat.le_refl _)) n, fun n hmem => by
          obtain ⟨j, hj⟩ := List.mem_iff_getElem?.1 hmem
          obtain ⟨l', a1, a2⟩ := hC.row j _ hj
          rcases a2 with ⟨_, a2⟩ | ⟨p, b1, b2, b3, b4, b5⟩
          · simp at a2
          · have := (List.getElem?_eq_some_iff.1 b5).1
            injection b1 with e3 _ _
            injection e3 with e4
            injection e4 with e5
            omega, by simp⟩)
        rw [e2, add1 i (by omega), k1s]
        exact loop21 call fuel base kx hv hs hr hbase n (i + 1) m' v' _ (by omega) (by omega) ((hK.trans (Keeps.push _ _ hK.1 _)).trans K2) (by rw [etake]; exact C2)
    · have e : i = H.length := by omega
      rw [decide_eq_false hlt, kbf]
      rw [e, List.take_length] at hC
      exact ⟨m, v, us, hK, hC, rfl⟩
theorem CG.mats {B : Nat} {m : M} {v : Value} {us : List Value} {H : List (List Int)} (h : CG B m v us H) : Mats m v H := by
  rcases h.grow with ⟨e0, e1, _⟩ | ⟨r, a1, a2, a3, a4, a5⟩
  · have : H = [] := List.eq_nil_of_length_eq_zero (by rw [← h.len]; exact e0)
    exact .inl ⟨this, .inl e1⟩
  · refine .inr ⟨r, 0, us.length, _, by rw [a3, h.len], by rw [h.len]; exact Nat.le_refl _, a4, rfl, by show 0 + _ ≤ us.length; rw [h.len]; omega, fun j hj => ?_⟩
    obtain ⟨u, hu⟩ : ∃ u, us[j]? = some u := ⟨_, List.getElem?_eq_getElem (by rw [h.len]; exact hj)⟩
    refine ⟨u, by rw [Nat.zero_add]; exact hu, ?_⟩
    obtain ⟨l, b1, b2⟩ := h.row j u hu
    have el : H[j] = l := by
      rw [List.getElem?_eq_getElem hj] at b1
      simpa using b1
    rw [el]
    rcases b2 with ⟨c1, c2⟩ | ⟨p, c1, c2, c3, c4, c5⟩
    · exact .inl ⟨c1, .inl c2⟩
    · refine .inr ⟨p, 0, l.length, _, c1, Nat.le_refl _, c5, rfl, by show 0 + _ ≤ (l.map vi).length; simp, fun k hk => ?_⟩
      show (l.map vi)[0 + k]? = _
      rw [Nat.zero_add, List.getElem?_map, List.getElem?_eq_getElem hk]
      rfl
theorem t21 (N base : Nat) {m : M} {v : Value} {H : List (List Int)} (hv : Mats m v H) (hs : H.length ≤ 1000) (hr : ∀ l ∈ H, l.length ≤ 1000) (hbm : base ≤ m.length) (hN : H.length < N) :
    ∃ m' v' us, Keeps m.length m m' ∧ CG m.length m' v' us H ∧ rt (N + 1) base 21 [v] m = some (.ret v', m') := by
  obtain ⟨m', v', us, K, C, e⟩ := loop21 (rt N) N base (fun y3 m => some (.ret y3, m)) hv hs hr hbm N 0 m nilS [] (Nat.zero_le _) (by omega) (Keeps.refl _ _) ⟨.inl ⟨rfl, rfl, rfl⟩, rfl, fun i u h => by simp at h, fun i j p n n' h => by simp at h⟩
  refine ⟨m', v', us, K, C, ?_⟩
  rw [rt_imp (f := 21) (rf := rf21) (by kernel_rfl) (by kernel_rfl) (by kernel_rfl)]
  show r21 (rt N) N base v m = _
  unfold r21
  rw [fVal_fun]
  exact e
end Go.AM
namespace Go.AM
open Go Go.Proofs
theorem heaps_uniq {a b c i j : Nat} {G : List (List Nat)} (hi : (heapsB a b c)[i]? = some G) (hj : (heapsB a b c)[j]? = some G) : i = j := by
  have e1 : (heapsL a b c)[i]? = some G.flatten := by rw [heapsB_flat, List.getElem?_map, hi]; rfl
  have e2 : (heapsL a b c)[j]? = some G.flatten := by rw [heapsB_flat, List.getElem?_map, hj]; rfl
  have h1 := enumR_lt _ e1 e2
  have h2 := enumR_lt _ e2 e1
  rw [lexlt_irrefl] at h1 h2
  have h3 := of_decide_eq_false h1.symm
  have h4 := of_decide_eq_false h2.symm
  omega
theorem rank_is {a b c r : Nat} {G : List (List Nat)} (h : (heapsB a b c)[r]? = some G) : rkF (rowsB b c) (List.replicate b c) G = r := by
  have hG := List.mem_of_getElem? h
  have hl := (heapsB_shape hG).1
  have h2 := rk_index (b := b) (c := c) (G := G) (up := List.replicate b c) (by simp) (by simp) (heaps_ch (by simp) (by simp) hG)
  rw [hl] at h2
  exact heaps_uniq h2 h
theorem toI_cl {G : List (List Nat)} (i j : Nat) : hcl (toI G) i j = rwL (G.getD i []) j := by
  unfold hcl hrow toI rwL
  rw [List.getD_eq_getElem?_getD, List.getD_eq_getElem?_getD, List.getD_eq_getElem?_getD, List.getD_eq_getElem?_getD, List.getElem?_map]
  cases G[i]? with
  | none => rfl
  | some r =>
    show ((r.map fun v => ((v : Nat) : Int))[j]?).getD 0 = _
    rw [List.getElem?_map]
    show ((r[j]?).map _).getD 0 = (((r[j]?).getD 0 : Nat) : Int)
    cases r[j]? <;> rfl
theorem fH_fG {a b c : Nat} {G : List (List Nat)} (hG : G ∈ heapsB a b c) : fH a b (toI G) = fG G := by
  obtain ⟨h1, h2⟩ := heapsB_shape hG
  funext i j
  unfold fH fG
  by_cases h : i < a ∧ j < b
  · rw [if_pos h, toI_cl]
  · rw [if_neg h]
    unfold rwL
    rw [List.getD_eq_getElem?_getD]
    by_cases hi : i < a
    · have hj : ¬ j < b := fun hj => h ⟨hi, hj⟩
      have e := getDs (l := G) (i := i) (by omega) []
      have := h2 _ (List.mem_of_getElem? e)
      rw [List.getElem?_eq_none (by omega)]
      rfl
    · rw [show G.getD i [] = [] by rw [List.getD_eq_getElem?_getD, List.getElem?_eq_none (by omega)]; rfl]
      rfl
theorem fG_ofL {a b : Nat} {G : List (List Nat)} (h1 : G.length = a) (h2 : ∀ r ∈ G, r.length = b) {i j : Nat} (hi : i < a) (hj : j < b) : fG G i j = ofL b G.flatten i j := by
  have e := hl_rows G h2
  rw [h1] at e
  have e2 := hl_cl (f := ofL b G.flatten) hi hj
  rw [e, toI_cl] at e2
  exact e2
theorem boxOk_true {a b c : Nat} (ha : 1 ≤ a ∧ a ≤ 4) (hb : 1 ≤ b ∧ b ≤ 4) (hc : 1 ≤ c ∧ c ≤ 4) : boxOk a b c = true := by
  unfold boxOk sideOk
  simp only [Bool.and_eq_true, decide_eq_true_eq]
  omega
theorem givB_heap {a b c r : Nat} (ha : 1 ≤ a ∧ a ≤ 4) (hb : 1 ≤ b ∧ b ≤ 4) (hc : 1 ≤ c ∧ c ≤ 4) {s : List Nat} (h : (heapsL a b c)[r]? = some s) : givB a b c (hl a b (ofL b s)) = true := by
  unfold givB
  rw [boxOk_true ha hb hc]
  exact in_of_heap (by omega) (List.mem_of_getElem? h)
theorem ex0 (x y : Value) : mextract 0 (.tuple #[x, y]) = some x := rfl
theorem ex1 (x y : Value) : mextract 1 (.tuple #[x, y]) = some y := rfl
/-- Rank of the code. -/
theorem t24 (N base : Nat) (hN : 80 ≤ N) {m : M} {v : Value} {a b c r : Nat} {G : List (List Nat)} (ha : 1 ≤ a ∧ a ≤ 4) (hb : 1 ≤ b ∧ b ≤ 4) (hc : 1 ≤ c ∧ c ≤ 4) (hG : (heapsB a b c)[r]? = some G) (hv : Mats m v (toI G)) :
    rt (N + 7) base 24 [boxV a b c, v] m = some (.ret (.tuple #[vi r, vi 0]), m) := by
  have hv1 := hv.app [cellR [vi a, vi b, vi c]]
  have g0 : (m ++ [cellR [vi a, vi b, vi c]])[m.length]? = some (cellR [vi a, vi b, vi c]) := get_new
  have gz : (m ++ [cellR [vi a, vi b, vi c]] ++ [cellR (plC 0 0 0 fun _ _ => 0)])[(m ++ [cellR [vi a, vi b, vi c]]).length]? = some (cellR (plC 0 0 0 fun _ _ => 0)) := get_new
  have hmem := List.mem_of_getElem? hG
  have hgiv : givB a b c (toI G) = true := by
    have e1 : (heapsL a b c)[r]? = some G.flatten := by rw [heapsB_flat, List.getElem?_map, hG]; rfl
    obtain ⟨h1, h2⟩ := heapsB_shape hmem
    have e := hl_rows G h2
    rw [h1] at e
    have := givB_heap ha hb hc e1
    rwa [e] at this
  have e56 := t56 (N + 2) m.length (by omega) hv1 a b c
  rw [hgiv, if_pos rfl, if_pos rfl, Int.toNat_natCast, Int.toNat_natCast, fH_fG hmem] at e56
  refine rt_pure (f := 24) (rf := rf24) (by kernel_rfl) (by kernel_rfl) (by kernel_rfl) (N + 6) base _ m ((m ++ [cellR [vi a, vi b, vi c]] ++ [cellR (plC 0 0 0 fun _ _ => 0)]).set (m ++ [cellR [vi a, vi b, vi c]]).length (cellR (plC a b c (fG G)))) _ ?_ rfl
  show r24 (rt (N + 6)) (N + 6) m.length (boxV a b c) v m = _
  unfold r24
  rw [k1_fun, bx23, k2s, ldb23 g0, k1s, e56, kcs, ex0, k1s, ex1, k1s, al79, k2s, st79 (by simp) gz, kss, show (.int .i64 0 : Value) = vi 0 from rfl, neq24, k1s, show (!decide ((0 : Int) = 0)) = false from rfl, kbf, ld79 (set_eq gz), k1s, t57 N m.length hN ha hb hc _ hmem, kcs, rank_is hG]
theorem cntL_len {a b c : Nat} (ha : 1 ≤ a) : cntL a b c = (heapsL a b c).length := (numL_cnt ha b c).symm
/-- Heap of the code. -/
theorem t28 (N base : Nat) (hN : 80 ≤ N) {m : M} (hbm : base ≤ m.length) {a b c : Nat} (ha : 1 ≤ a ∧ a ≤ 4) (hb : 1 ≤ b ∧ b ≤ 4) (hc : 1 ≤ c ∧ c ≤ 4) {r : Int} (hr : 0 ≤ r) :
    (r < ((heapsL a b c).length : Nat) ∧ ∃ o ps m' s, (heapsL a b c)[r.toNat]? = some s ∧ Keeps m.length m m' ∧ HM m.length m' o ps a b (ofL b s) ∧ rt (N + 7) base 28 [boxV a b c, vi r] m = some (.ret (.tuple #[sl o a, vi 0]), m')) ∨
    (¬ r < ((heapsL a b c).length : Nat) ∧ ∃ m', Keeps m.length m m' ∧ rt (N + 7) base 28 [boxV a b c, vi r] m = some (.ret (.tuple #[nilS, vi 4]), m')) := by
  have hok := boxOk_true ha hb hc
  have g0 : (m ++ [cellR [vi a, vi b, vi c]])[m.length]? = some (cellR [vi a, vi b, vi c]) := get_new
  have e28 : ∀ res, (kb (.bool (decide (r ≥ ((cntL a b c : Nat) : Int)))) (some (.ret (.tuple #[(.slice none 0 0), (.int .i64 4)]), (m ++ [cellR [vi a, vi b, vi c]]))) (kc (rt (N + 6) base 59 [boxV a b c, vi r] (m ++ [cellR [vi a, vi b, vi c]])) (fun v19_10 m => (kc (rt (N + 6) base 60 [v19_10] m) (fun v20_11 m => (some (.ret (.tuple #[v20_11, (.int .i64 0)]), m))) (fun v m => some (.pan v, m)))) (fun v m => some (.pan v, m)))) = res → rt (N + 7) base 28 [boxV a b c, vi r] m = res := by
    intro res h
    rw [rt_imp (f := 28) (rf := rf28) (by kernel_rfl) (by kernel_rfl) (by kernel_rfl)]
    show r28 (rt (N + 6)) (N + 6) base (boxV a b c) (vi r) m = _
    unfold r28
    rw [k1_fun, bx23, k2s, ldb23 g0, k1s, t47 (N + 4), kcs, hok, not4, k1s, show (!true) = false from rfl, kbf, show (.int .i64 0 : Value) = vi 0 from rfl, lss3, k1s, decide_eq_false (by omega), kbf, ldb23 g0, k1s, rt48 (N + 5) _ _ hok, kcs, geq3, k1s, ldb23 g0, k1s]
    exact h
  by_cases hlt : r < ((heapsL a b c).length : Nat)
  · left
    refine ⟨hlt, ?_⟩
    obtain ⟨k, rfl⟩ := Int.eq_ofNat_of_zero_le hr
    have hk : k < (heapsL a b c).length := by omega
    obtain ⟨s, hs⟩ : ∃ s, (heapsL a b c)[k]? = some s := ⟨_, List.getElem?_eq_getElem hk⟩
    obtain ⟨G, hG, rfl, _⟩ := heap_rows hs
    have hmem := List.mem_of_getElem? hG
    obtain ⟨s1, s2⟩ := heapsB_shape hmem
    have e59 := t59 N base hN ha hb hc (m ++ [cellR [vi a, vi b, vi c]]) hmem
    rw [rank_is hG] at e59
    obtain ⟨o, ps, m', H, K, e60⟩ := t60 (N + 4) base (m := m ++ [cellR [vi a, vi b, vi c]]) (by simp; omega) (c : Int) ha hb (by omega) (fG G)
    refine ⟨o, ps, m', G.flatten, by simpa using hs, ((Keeps.push _ _ (Nat.le_refl _) _)).trans (K.mono (by simp)), ?_, e28 _ ?_⟩
    · have H2 := H.congr (g := ofL b G.flatten) (fun i j hi hj => fG_ofL s1 s2 hi hj)
      exact ⟨H2.out, by have := H2.bo; simp at this; omega, H2.len, fun i p hp => by
        obtain ⟨c1, c2, c3⟩ := H2.row i p hp
        simp at c1
        exact ⟨by omega, c2, c3⟩, H2.inj⟩
    · rw [decide_eq_false (by rw [cntL_len ha.1]; omega), kbf, e59, kcs, e60, kcs]
      rfl
  · right
    refine ⟨hlt, m ++ [cellR [vi a, vi b, vi c]], Keeps.push _ _ (Nat.le_refl _) _, e28 _ ?_⟩
    rw [decide_eq_true (by rw [cntL_len ha.1]; omega), kbt]
    rfl
theorem t12 (N base : Nat) (m : M) {a b c : Nat} (ha : 1 ≤ a ∧ a ≤ 4) (hb : 1 ≤ b ∧ b ≤ 4) (hc : 1 ≤ c ∧ c ≤ 4) :
    rt (N + 3) base 12 [boxV a b c] m = some (.ret (.tuple #[vi (heapsL a b c).length, vi 0]), m) := by
  have hok := boxOk_true ha hb hc
  have g0 : (m ++ [cellR [vi a, vi b, vi c]])[m.length]? = some (cellR [vi a, vi b, vi c]) := get_new
  refine rt_pure (f := 12) (rf := rf12) (by kernel_rfl) (by kernel_rfl) (by kernel_rfl) (N + 2) base _ m (m ++ [cellR [vi a, vi b, vi c]]) _ ?_ rfl
  show r12 (rt (N + 2)) (N + 2) m.length (boxV a b c) m = _
  unfold r12
  rw [k1_fun, bx23, k2s, ldb23 g0, k1s, t47 N, kcs, hok, not4, k1s, show (!true) = false from rfl, kbf, ldb23 g0, k1s, rt48 (N + 1) _ _ hok, kcs, cntL_len ha.1]
  rfl
end Go.AM
namespace Go.AM
open Go Go.Proofs
/-- Same of two heaps of four by four at most. -/
theorem same_hl (n base : Nat) (hn : 5 ≤ n) {m : M} {v w : Value} {a b : Nat} (ha : a ≤ 4) (hb : b ≤ 4) {f g : Nat → Nat → Int} (hv : Mats m v (hl a b f)) (hw : Mats m w (hl a b g)) : rt (n + 1) base 26 [v, w] m = some (.ret (.bool (decide (hl a b f = hl a b g))), m) :=
  t26 n base hv hw (fun i hi => by
    rw [hl_len] at hi
    rw [hl_rowlen hi]
    omega) (by rw [hl_len]; omega) (by rw [hl_len]; omega)
end Go.AM
namespace Go.AM
open Go Go.Proofs
end Go.AM
namespace Go.AM
open Go Go.Proofs
theorem CG.hm {B : Nat} {m : M} {v : Value} {us : List Value} {a b : Nat} {f : Nat → Nat → Int} (h : CG B m v us (hl a b f)) (ha : 1 ≤ a) (hb : 1 ≤ b) : ∃ o ps, v = sl o a ∧ HM B m o ps a b f := by
  have hlen : us.length = a := by rw [h.len, hl_len]
  rcases h.grow with ⟨e0, _⟩ | ⟨o, a1, a2, a3, a4, a5⟩
  · omega
  · let gp : Value → Nat := fun u => match u with
      | .slice (some ad) _ _ => ad.block
      | _ => 0
    have key : ∀ (i : Nat) u, us[i]? = some u → ∃ p, u = sl p b ∧ B ≤ p ∧ (∀ n, v ≠ sl p n) ∧ m[p]? = some (rowz 1 false (rowF b (f i))) := by
      intro i u hu
      have hi : i < a := by rw [← hlen]; exact (List.getElem?_eq_some_iff.1 hu).1
      obtain ⟨l, b1, b2⟩ := h.row i u hu
      have el : l = (List.range b).map fun j => f i j := by
        unfold hl at b1
        rw [List.getElem?_map, List.getElem?_range hi] at b1
        simpa using b1.symm
      have ll : l.length = b := by rw [el]; simp
      rcases b2 with ⟨c1, _⟩ | ⟨p, c1, _, c3, c4, c5⟩
      · rw [c1] at ll; simp at ll; omega
      · refine ⟨p, by rw [c1, ll], c3, c4, ?_⟩
        rw [c5, el]
        unfold rowF
        rw [List.map_map]
        rfl
    have eus : us = (us.map gp).map fun p => sl p b := by
      apply List.ext_getElem?
      intro i
      rw [List.getElem?_map, List.getElem?_map]
      cases e : us[i]? with
      | none => rfl
      | some u =>
        obtain ⟨p, rfl, _⟩ := key i u e
        rfl
    refine ⟨o, us.map gp, by rw [a3, hlen], ⟨⟨false, by rw [← eus]; exact a4⟩, a2, by rw [List.length_map]; exact hlen, fun i p hp => ?_, fun i j p hi hj => ?_⟩⟩
    · rw [List.getElem?_map] at hp
      cases e : us[i]? with
      | none => rw [e] at hp; simp at hp
      | some u =>
        rw [e] at hp
        obtain ⟨q, rfl, c3, c4, c5⟩ := key i u e
        have hp' : q = p := by simpa [gp] using hp
        subst hp'
        exact ⟨c3, fun e2 => c4 us.length (by rw [a3, e2]), false, c5⟩
    · rw [List.getElem?_map] at hi hj
      cases e : us[i]? with
      | none => rw [e] at hi; simp at hi
      | some u =>
        cases e2 : us[j]? with
        | none => rw [e2] at hj; simp at hj
        | some u2 =>
          rw [e] at hi
          rw [e2] at hj
          obtain ⟨q, rfl, _⟩ := key i u e
          obtain ⟨q2, rfl, _⟩ := key j u2 e2
          have h1 : q = p := by simpa [gp] using hi
          have h2 : q2 = p := by simpa [gp] using hj
          subst h1
          subst h2
          exact h.inj i j q2 b b e e2
theorem rem8 (x : Int) : mbin E .rem 5 (.int .u8 x) (.int .u8 4) = some (.int .u8 (x.tmod 4)) := by kernel_rfl
theorem cv8 (x : Int) : mconvert E.P 5 3 (.int .u8 x) = some (vi (wr x)) := by kernel_rfl
theorem cv32 (x : Int) : mconvert E.P 58 3 (.int .u32 x) = some (vi (wr x)) := by kernel_rfl
theorem eql24' (x y : Int) : mbin E .eql 24 (vi x) (vi y) = some (.bool (decide (x = y))) := by
  have e : mbin E .eql 24 (vi x) (vi y) = some (.bool (x == y)) := by kernel_rfl
  rw [e]; congr 2
theorem mb23 (A B C : Int) : mbuild E.P 23 [(0, vi A), (1, vi B), (2, vi C)] = some (boxV A B C) := by kernel_rfl
theorem al23' (m : M) : xalloc E.P m 23 = some (pt m.length 0, m ++ [cellR [vi 0, vi 0, vi 0]]) := by
  have e : xalloc E.P m 23 = xlen m fun n => xpush m (cellR [vi 0, vi 0, vi 0]) fun m' => some (pt n 0, m') := by kernel_rfl
  rw [e, xlen_eq, fNat_eq, xpush_eq, fList_eq]
/-- A measure made of a byte. -/
def side (x : Int) : Nat := 1 + (x.tmod 4).toNat
theorem side_ok {x : Int} (h : 0 ≤ x) : 1 ≤ side x ∧ side x ≤ 4 ∧ wr (1 + wr (x.tmod 4)) = (side x : Nat) := by
  have h1 : 0 ≤ x.tmod 4 := Int.tmod_nonneg 4 h
  have h2 : x.tmod 4 < 4 := Int.tmod_lt_of_pos x (by omega)
  unfold side
  rw [wr_id (n := x.tmod 4) (by omega) (by omega), wr_id (by omega) (by omega)]
  omega
/-- The heap that a law works on. -/
theorem t42 (N base : Nat) (hN : 240000 ≤ N) {m : M} (hbm : base ≤ m.length) {A B C R : Int} (hA : 0 ≤ A) (hB : 0 ≤ B) (hC : 0 ≤ C) (hR : 0 ≤ R) (hR2 : R ≤ 4294967295) :
    ∃ (o : Nat) (ps : List Nat) (m' : M) (s : List Nat) (k : Nat), (heapsL (side A) (side B) (side C))[k]? = some s ∧ Keeps m.length m m' ∧ HM m.length m' o ps (side A) (side B) (ofL (side B) s) ∧ rt (N + 5) base 42 [.int .u8 A, .int .u8 B, .int .u8 C, .int .u32 R] m = some (.ret (.tuple #[boxV (side A : Nat) (side B : Nat) (side C : Nat), sl o (side A)]), m') := by
  obtain ⟨a1, a2, a3⟩ := side_ok hA
  obtain ⟨b1, b2, b3⟩ := side_ok hB
  obtain ⟨c1, c2, c3⟩ := side_ok hC
  have hok := boxOk_true (a := side A) (b := side B) (c := side C) ⟨a1, a2⟩ ⟨b1, b2⟩ ⟨c1, c2⟩
  have hcap := numL_le (a := side A) (b := side B) (c := side C) ⟨a1, a2⟩ ⟨b1, b2⟩ ⟨c1, c2⟩
  have hpos := (List.getElem?_eq_some_iff.1 (heapsL_zero (side A) (side B) (side C))).1
  obtain ⟨m1, hm1⟩ : ∃ m1 : M, m1 = m ++ [cellR [vi 0, vi 0, vi 0]] := ⟨_, rfl⟩
  have l1 : m1.length = m.length + 1 := by simp [hm1]
  obtain ⟨m2, hm2⟩ : ∃ m2 : M, m2 = (m1 ++ [cellR [vi 0, vi 0, vi 0]]).set (m.length + 1) (cellR [vi (side A : Nat), vi (side B : Nat), vi (side C : Nat)]) := ⟨_, rfl⟩
  have l2 : m2.length = m.length + 2 := by simp [hm2, l1]
  have z1 : (m1 ++ [cellR [vi 0, vi 0, vi 0]])[m.length + 1]? = some (cellR [vi 0, vi 0, vi 0]) := by rw [← l1]; exact get_new
  have g2 : m2[m.length + 1]? = some (cellR [vi (side A : Nat), vi (side B : Nat), vi (side C : Nat)]) := by rw [hm2]; exact set_eq z1
  have g1 : m2[m.length]? = some (cellR [vi 0, vi 0, vi 0]) := by
    rw [hm2, set_ne rfl (by omega), List.getElem?_append_left (by omega), hm1]; exact get_new
  have o2 : ∀ x, x < m.length → m2[x]? = m[x]? := fun x hx => by rw [hm2, set_ne rfl (by omega), List.getElem?_append_left (by omega), hm1, List.getElem?_append_left hx]
  obtain ⟨r, hr⟩ := Int.eq_ofNat_of_zero_le hR
  subst hr
  have hmod : r % (heapsL (side A) (side B) (side C)).length < (heapsL (side A) (side B) (side C)).length := Nat.mod_lt _ hpos
  rcases t27 (N + 1) m2.length (m := m2) (Nat.le_refl _) ⟨a1, a2⟩ ⟨b1, b2⟩ ⟨c1, c2⟩ (by omega) (r := ((r % (heapsL (side A) (side B) (side C)).length : Nat) : Int)) (by omega) with ⟨q1, o, ps, m3, s, q2, q3, q4, q5⟩ | ⟨q1, _⟩
  · rw [Int.toNat_natCast] at q2
    have hk3 := q3.1
    refine ⟨o, ps, m3.set m.length (cellR [vi (side A : Nat), vi (side B : Nat), vi (side C : Nat)]), s, _, q2, ⟨by rw [List.length_set]; omega, fun x hx => ?_⟩, ?_, ?_⟩
    · rw [set_ne rfl (by omega), q3.2 x (by omega), o2 x hx]
    · have hbo := q4.bo
      have h4 : HM m2.length (m3.set m.length (cellR [vi (side A : Nat), vi (side B : Nat), vi (side C : Nat)])) o ps (side A) (side B) (ofL (side B) s) := q4.keep (set_ne rfl (by omega)) (fun p hp => set_ne rfl (by
        obtain ⟨i, hi⟩ := List.mem_iff_getElem?.1 hp
        have := (q4.row i p hi).1
        omega))
      exact ⟨h4.out, by omega, h4.len, fun i p hp => by
        obtain ⟨d1, d2, d3⟩ := h4.row i p hp
        exact ⟨by omega, d2, d3⟩, h4.inj⟩
    · rw [rt_imp (f := 42) (rf := rf42) (by kernel_rfl) (by kernel_rfl) (by kernel_rfl)]
      show r42 (rt (N + 4)) (N + 4) base (.int .u8 A) (.int .u8 B) (.int .u8 C) (.int .u32 (r : Int)) m = _
      have erem : mbin E .rem 3 (vi (r : Int)) (vi (cntL (side A) (side B) (side C) : Nat)) = some (vi ((r % (heapsL (side A) (side B) (side C)).length : Nat) : Int)) := by
        rw [cntL_len a1]
        exact remN r _ hpos
      have g3 := (q3.2 m.length (by omega)).trans g1
      have g4 := (q3.2 (m.length + 1) (by omega)).trans g2
      unfold r42
      rw [k1_fun, al23', k2s, ← hm1, rem8, k1s, cv8, k1s, show (.int .i64 1 : Value) = vi 1 from rfl, add3, k1s, a3, rem8, k1s, cv8, k1s, add3, k1s, b3, rem8, k1s, cv8, k1s, add3, k1s, c3, mb23, k1s, al23', k2s, l1, st23v (by omega) z1, kss, ← hm2]
      rw [ldb23 g2, k1s, rt15 (N + 3) base m2 hok, kcs, ex0, k1s, ex1, k1s, ldb23 g2, k1s, cv32, k1s, wr_id (by omega) (by omega), erem, k1s, q5, kB_keeps q3, kcs, ex0, k1s, ex1, k1s, ldb23 g4, k1s, st23v (by omega) g3, kss, ml23 (set_eq g3), k0s]
  · exact absurd (by omega) q1
theorem law9 (N base : Nat) (hN : 240000 ≤ N) {m : M} (hbm : base ≤ m.length) {A B C R : Int} (hA : 0 ≤ A) (hB : 0 ≤ B) (hC : 0 ≤ C) (hR : 0 ≤ R) (hR2 : R ≤ 4294967295) :
    ∃ m', Keeps m.length m m' ∧ rt (N + 8) base 9 [.int .u8 A, .int .u8 B, .int .u8 C, .int .u32 R] m = some (.ret (.bool true), m') := by
  obtain ⟨a1, a2, _⟩ := side_ok hA
  obtain ⟨b1, b2, _⟩ := side_ok hB
  obtain ⟨c1, c2, _⟩ := side_ok hC
  obtain ⟨o, ps, m1, s, k, hs, K1, H1, e42⟩ := t42 (N + 2) base (by omega) hbm hA hB hC hR hR2
  generalize side A = a at *
  generalize side B = b at *
  generalize side C = c at *
  have ha : 1 ≤ a ∧ a ≤ 4 := ⟨a1, a2⟩
  have hb : 1 ≤ b ∧ b ≤ 4 := ⟨b1, b2⟩
  have hc : 1 ≤ c ∧ c ≤ 4 := ⟨c1, c2⟩
  have hcap := numL_le ha hb hc
  have hkl := (List.getElem?_eq_some_iff.1 hs).1
  have kl1 := K1.1
  obtain ⟨G, hG, rfl, eG⟩ := heap_rows hs
  -- the box's variable
  obtain ⟨m2, hm2⟩ : ∃ m2 : M, m2 = (m1 ++ [cellR [vi 0, vi 0, vi 0]]).set m1.length (cellR [vi a, vi b, vi c]) := ⟨_, rfl⟩
  have z1 : (m1 ++ [cellR [vi 0, vi 0, vi 0]])[m1.length]? = some (cellR [vi 0, vi 0, vi 0]) := get_new
  have l2 : m2.length = m1.length + 1 := by simp [hm2]
  have o2 : ∀ x, x < m1.length → m2[x]? = m1[x]? := fun x hx => by rw [hm2, set_ne rfl (by omega), List.getElem?_append_left hx]
  have g2 : m2[m1.length]? = some (cellR [vi a, vi b, vi c]) := by rw [hm2]; exact set_eq z1
  have lt1 := H1.lt
  have H2 := H1.keep (o2 o lt1.1) (fun p hp => o2 p (lt1.2 p hp))
  have e24 := t24 N base (by omega) ha hb hc hG (eG ▸ H2.mats)
  -- the heap of the rank
  rcases t28 N base (by omega) (m := m2) (by omega) ha hb hc (r := (k : Int)) (by omega) with ⟨_, o', ps', m3, s', q1, q2, q3, q4⟩ | ⟨q1, _⟩
  · rw [Int.toNat_natCast, hs] at q1
    simp only [Option.some.injEq] at q1
    subst q1
    have kl3 := q2.1
    have g3 := (q2.2 m1.length (by omega)).trans g2
    have lt2 := H2.lt
    have H3 := H2.keep (q2.2 o lt2.1) (fun p hp => q2.2 p (lt2.2 p hp))
    have e26 := same_hl (N + 6) base (by omega) ha.2 hb.2 q3.mats H3.mats
    rw [decide_eq_true rfl] at e26
    have e12 := t12 (N + 4) base m3 ha hb hc
    rcases t28 N base (by omega) (m := m3) (by omega) ha hb hc (r := ((heapsL a b c).length : Nat)) (by omega) with ⟨q5, _⟩ | ⟨_, m4, K4, e28⟩
    · omega
    · have kl4 := K4.1
      have g4 := (K4.2 m1.length (by omega)).trans g3
      have lt3 := H3.lt
      have H4 := H3.keep (K4.2 o lt3.1) (fun p hp => K4.2 p (lt3.2 p hp))
      have hmats := H4.mats
      obtain ⟨m5, v5, us, K5, C5, e21⟩ := t21 (N + 6) base hmats (by rw [hl_len]; omega) (fun l hl' => by
        unfold hl at hl'
        rw [List.mem_map] at hl'
        obtain ⟨i, _, rfl⟩ := hl'
        simp
        omega) (by omega) (by rw [hl_len]; omega)
      obtain ⟨o5, ps5, rfl, H5⟩ := C5.hm ha.1 hb.1
      have kl5 := K5.1
      have g5 := (K5.2 m1.length (by omega)).trans g4
      have s24 : ∀ x : Int, mbin E .neq 24 (vi x) (vi x) = some (.bool false) := fun x => by rw [neq24, decide_eq_true rfl]; rfl
      have KK : Keeps m.length m m5 := ⟨by omega, fun x hx => by rw [K5.2 x (by omega), K4.2 x (by omega), q2.2 x (by omega), o2 x (by omega), K1.2 x hx]⟩
      have pre : ∀ res, kc (rt (N + 7) base 44 [boxV a b c, sl o5 a] m5) (fun v80_31 m => (k1n (mun .not v80_31) fun v81_32 => (kb v81_32 (k1n (mbin E .sub 3 (vi (heapsL a b c).length) (.int .i64 1)) fun v84_33 => (k1n (mbin E .eql 3 (vi k) v84_33) fun v85_34 => (kb v85_34 (kc (rt (N + 7) base 19 [] m) (fun v87_35 m => (some (.ret v87_35, m))) (fun v m => some (.pan v, m))) (some (.ret (.bool false), m))))) (k1n (xload E.P m 23 (pt m1.length 0)) fun v90_36 => (kc (rt (N + 7) base 24 [v90_36, sl o5 a] m) (fun v92_37 m => (k1n (mextract 0 v92_37) fun v93_38 => (k1n (mextract 1 v92_37) fun v94_39 => (k1n (mbin E .eql 24 v94_39 (.int .i64 0)) fun v96_40 => (kb v96_40 (k1n (mbin E .add 3 (vi k) (.int .i64 1)) fun v100_41 => (k1n (mbin E .eql 3 v93_38 v100_41) fun v101_42 => (kb v101_42 (kc (rt (N + 7) base 19 [] m) (fun v104_43 m => (some (.ret v104_43, m))) (fun v m => some (.pan v, m))) (some (.ret (.bool false), m))))) (some (.ret (.bool false), m))))))) (fun v m => some (.pan v, m))))))) (fun v m => some (.pan v, m)) = res →
          rt (N + 8) base 9 [.int .u8 A, .int .u8 B, .int .u8 C, .int .u32 R] m = res := by
        intro res h
        rw [rt_imp (f := 9) (rf := rf9) (by kernel_rfl) (by kernel_rfl) (by kernel_rfl)]
        show r9 (rt (N + 7)) (N + 7) base (.int .u8 A) (.int .u8 B) (.int .u8 C) (.int .u32 R) m = _
        unfold r9
        rw [k1_fun, fVal_fun, e42, kcs, ex0, k1s, ex1, k1s, al23', k2s, st23v (by omega) z1, kss, ← hm2, ldb23 g2, k1s, e24, kcs, ex0, k1s, ex1, k1s, ldb23 g2, k1s, q4, kcs, ex0, k1s, ex1, k1s, show (.int .i64 0 : Value) = vi 0 from rfl, s24, k1s, kbf]
        rw [k1s, kbf, e26, kcs, not4, k1s, show (!true) = false from rfl, kbf, ldb23 g3, k1s, e12, kcs, ex0, k1s, ex1, k1s, ldb23 g3, k1s, e28, kcs, ex0, k1s, ex1, k1s, s24, k1s, kbf, show (.int .i64 4 : Value) = vi 4 from rfl, s24, k1s, kbf, lss3, k1s, decide_eq_false (by omega), kbf, geq3, k1s, decide_eq_false (by omega), kbf, e21, kcs, ldb23 g5, k1s]
        exact h
      rcases t44L (N + 5) base (by omega) ha hb hc.2 (by omega) hs H5 with ⟨r1, m6, r2, r3, r4, r5⟩ | ⟨s', m6, r1, r2, r3, r4, r5⟩
      · refine ⟨m6, KK.trans ⟨r3, fun x hx => r4 x (by omega)⟩, pre _ ?_⟩
        rw [r5, kcs, not4, k1s, show (!false) = true from rfl, kbt, sub1 _ (by omega) (by omega), k1s, eql3, k1s, decide_eq_true (by omega), kbt, rt19 (N + 6), kcs]
      · have hnot : ∀ x, x < m4.length → x ∉ ps5 := fun x hx => H5.B_le (by omega)
        refine ⟨m6, KK.trans ⟨r3, fun x hx => r4 x (by omega) (hnot x (by omega))⟩, pre _ ?_⟩
        obtain ⟨G', hG', rfl, eG'⟩ := heap_rows r1
        have e24' := t24 N base (by omega) ha hb hc hG' (eG' ▸ r2.mats)
        have g6 := (r4 m1.length (by omega) (hnot _ (by omega))).trans g5
        rw [r5, kcs, not4, k1s, show (!true) = false from rfl, kbf, ldb23 g6, k1s, e24', kcs, ex0, k1s, ex1, k1s, show (.int .i64 0 : Value) = vi 0 from rfl, eql24', k1s, decide_eq_true rfl, kbt, add1 k (by omega), k1s, eql3, k1s, decide_eq_true rfl, kbt, rt19 (N + 6), kcs]
  · omega
end Go.AM
namespace Go.AM
open Go Go.Proofs
theorem law9c {m : M} {A B C R : Int} (hA : 0 ≤ A) (hB : 0 ≤ B) (hC : 0 ≤ C) (hR : 0 ≤ R ∧ R ≤ 4294967295) : ∃ m', rt 240008 m.length 9 [.int .u8 A, .int .u8 B, .int .u8 C, .int .u32 R] m = some (.ret (.bool true), m') := by
  obtain ⟨m', _, h⟩ := law9 240000 m.length (Nat.le_refl _) (Nat.le_refl _) hA hB hC hR.1 hR.2
  exact ⟨m', h⟩
end Go.AM
