import Derived.Laws.BytesArg
import Derived.WalkKit
import Derived.Test.YtoggcogekknlkaaAmB
import Derived.Test.YtoggcogekknlkaaAmModel
set_option linter.unusedVariables false
set_option linter.unusedSimpArgs false
set_option linter.unusedSectionVars false
namespace Go.AM
open Go
section
variable {P : Program} {ρ : Map} {m : M} {w : World}
theorem run_askRoom (n : Nat) (w : World) : (askRoom n).run P w = .ok () w := by
  unfold askRoom; split <;> simp
theorem grownCap_le {need old : Nat} {e : TypeId} (w : World) : need ≤ grownCap w need old e := by
  unfold grownCap Question.cut
  exact Nat.le_add_right _ _
theorem srcOk_cases {u : TypeId} (h : srcOk P u = true) : (∃ e, P.underlying u = some (.slice e)) ∨ P.underlying u = some .string := by
  unfold srcOk at h
  split at h
  · rename_i e he; exact .inl ⟨e, he⟩
  · rename_i he; exact .inr he
  · simp at h
theorem run_grow {t u elem ty : TypeId} {i : TypeInfo} {z : Value} (hu : P.underlying t = some (.slice elem)) (hu2 : srcOk P u = true) (hi : P.info? elem = some i) (hz : zeroOf P elem = some z)
    (base0 : Option Addr) (sLen sCap n : Nat) (x' : Value) (olds news : List Value) (hlen : (Builtin.lenOf x').run P w = .ok n w)
    (hold : (Builtin.firstCells i.size sLen (.slice base0 sLen sCap)).run P w.drew = .ok olds.toArray w.drew) (hnew : (Builtin.firstCells i.size n x').run P w.drew = .ok news.toArray w.drew)
    (hg : sCap < sLen + n) (h38 : sLen + n ≤ 2 ^ 38) (hb : i.bytes ≤ 2 ^ 7) :
    (Builtin.append_ #[t, u] ty #[.slice base0 sLen sCap, x']).run P w =
      .ok (.slice (some ⟨w.heap.size, 0, none⟩) (sLen + n) (grownCap w (sLen + n) sCap elem))
        (w.drew.alloc (.cells ((olds ++ news) ++ (Builtin.zeroCells z.cells (grownCap w (sLen + n) sCap elem - (sLen + n))).toList).toArray elem)) := by
  have hn : ¬ (sLen + n ≤ sCap) := by omega
  have h63 : ¬ (9223372036854775807 < ((sLen : Int) + (n : Int))) := by omega
  have hfit : (sLen + n) * i.bytes ≤ 140737488355328 := by
    have : (sLen + n) * i.bytes ≤ 2 ^ 38 * 2 ^ 7 := Nat.mul_le_mul h38 hb
    omega
  have h48 : ¬ (281474976710656 < Builtin.nextslicecap (sLen + n) sCap * i.bytes) := by have := growslice_fits hg hfit; omega
  have hzr := run_zeroValue' hz w.drew
  have hf : (Question.appendCap (sLen + n) sCap elem).forced = false := rfl
  rcases srcOk_cases hu2 with ⟨e2, hu2⟩ | hu2 <;>
  · simp [Builtin.append_, run_underlying hu, run_underlying hu2, sizeOf, typeInfo, hi, hlen, hn, h63, h48, hf, run_askRoom, hold, hnew, hzr, newRow, grownCap]
    congr 2
    apply Array.ext'
    simp
theorem run_inplace {t u elem ty : TypeId} {i : TypeInfo} (hu : P.underlying t = some (.slice elem)) (hu2 : srcOk P u = true) (hi : P.info? elem = some i)
    (a : Addr) (sLen sCap n : Nat) (x' : Value) (news : List Value) (w' : World) (hlen : (Builtin.lenOf x').run P w = .ok n w)
    (hnew : (Builtin.firstCells i.size n x').run P w = .ok news.toArray w) (hst : (storeCells (a.add (sLen * i.size)) news).run P w = .ok () w')
    (hg : sLen + n ≤ sCap) :
    (Builtin.append_ #[t, u] ty #[.slice (some a) sLen sCap, x']).run P w = .ok (.slice (some a) (sLen + n) sCap) w' := by
  rcases srcOk_cases hu2 with ⟨e2, hu2⟩ | hu2 <;>
  simp [Builtin.append_, run_underlying hu, run_underlying hu2, sizeOf, typeInfo, hi, hlen, hg, hnew, hst]
theorem run_nothing_nil {t u elem ty : TypeId} {i : TypeInfo} (hu : P.underlying t = some (.slice elem)) (hu2 : srcOk P u = true) (hi : P.info? elem = some i)
    (x' : Value) (hlen : (Builtin.lenOf x').run P w = .ok 0 w) (news : List Value)
    (hnew : (Builtin.firstCells i.size 0 x').run P w = .ok news.toArray w) :
    (Builtin.append_ #[t, u] ty #[.slice none 0 0, x']).run P w = .ok (.slice none 0 0) w := by
  rcases srcOk_cases hu2 with ⟨e2, hu2⟩ | hu2 <;>
  simp [Builtin.append_, run_underlying hu, run_underlying hu2, sizeOf, typeInfo, hi, hlen, hnew]
theorem zeroCells_length (z : Array Value) (n : Nat) : (Builtin.zeroCells z n).toList.length = n * z.size := by simp [Builtin.zeroCells]
theorem mkill_some {base : Nat} {m : M} {r : Nat} {m' : M} (h : mkill base m r = some m') : base ≤ r ∧ ∃ row, m[r]? = some row ∧ row.ro = false ∧ m' = m.set r { row with cells := [] } := by
  unfold mkill at h
  simp only [fList_eq] at h
  split at h
  · simp at h
  · rename_i hb
    split at h
    · simp at h
    · rename_i row hrow
      split at h
      · simp at h
      · rename_i hro
        exact ⟨by omega, row, hrow, by simpa using hro, by simpa using h.symm⟩
theorem run_zeros {t u elem ty : TypeId} {i : TypeInfo} {z : Value} {q k : IntKind} (hu : P.underlying t = some (.slice elem)) (hu2 : P.underlying u = some (.int q)) (hi : P.info? elem = some i) (hz : zeroOf P elem = some z) (h0 : i.size ≠ 0) (hzs : z.cells.size = i.size)
    (n : Nat) (h1 : 1 ≤ n) (h38 : n ≤ 2 ^ 38) (hb : i.bytes ≤ 2 ^ 7) :
    (Builtin.append_ #[t, u] ty #[.slice none 0 0, .int k (n : Int)]).run P w =
      .ok (.slice (some ⟨w.heap.size, 0, none⟩) n (grownCap w n 0 elem))
        (w.drew.alloc (.cells (repCells z.cells.toList n ++ (Builtin.zeroCells z.cells (grownCap w n 0 elem - n)).toList).toArray elem)) := by
  have hfit : n * i.bytes ≤ 140737488355328 := by
    have : n * i.bytes ≤ 2 ^ 38 * 2 ^ 7 := Nat.mul_le_mul h38 hb
    omega
  have h48 : ¬ (281474976710656 < Builtin.nextslicecap n 0 * i.bytes) := by have := growslice_fits (need := n) (old := 0) (by omega) hfit; omega
  have hzr := run_zeroValue' hz w.drew
  have hf : (Question.appendCap n 0 elem).forced = false := rfl
  have hw : IntKind.i64.wrap (n : Int) = n := i64_wrap_small (by omega) (by omega)
  have hl0 : ¬ ((n : Int) < 0) := by omega
  have hl48 : ¬ (281474976710656 < (n : Int) * (i.bytes : Int)) := by
    have : (n : Int) * (i.bytes : Int) = ((n * i.bytes : Nat) : Int) := by simp
    rw [this]; omega
  have hn0 : ¬ (n = 0) := by omega
  have hns : ¬ (n * i.size = 0) := by
    intro e
    rcases Nat.mul_eq_zero.1 e with e | e
    · omega
    · exact h0 e
  have h63 : ¬ (9223372036854775807 < (n : Int)) := by omega
  have hzc : Builtin.zeroCells z.cells n = (repCells z.cells.toList n).toArray := by
    unfold Builtin.zeroCells
    rw [repCells_range z.cells n z.cells.size rfl (by omega)]
  simp [Builtin.append_, run_underlying hu, run_underlying hu2, sizeOf, typeInfo, hi, asInt, asIntOf, hw, hl0, hl48, hn0, hns, h63, h48, hf, run_askRoom, hzr, newRow, grownCap, hzc, Builtin.firstCells, h0]
  congr 2
  apply Array.ext'
  simp
theorem mappend_sound (hR : Rel ρ m w) {base : Nat} (hbase : base ≤ m.length) {tys : Array TypeId} {s x s' x' v : Value} {m' : M} (h : mappend P base m tys.toList s x = some (v, m')) (hs : VRel ρ s s') (hx : VRel ρ x x') (ty : TypeId) :
    ∃ v' w' ρ', (Builtin.append_ tys ty #[s', x']).run P w = .ok v' w' ∧ VRel ρ' v v' ∧ Rel ρ' m' w' ∧ Ext base ρ ρ' w w' := by
  unfold mappend at h
  simp only [fList_eq, fNat_eq] at h
  split at h
  case h_2 => simp at h
  rename_i t u htys
  obtain rfl : tys = #[t, u] := by apply Array.ext'; simpa using htys
  split at h
  case h_3 => simp at h
  case h_2 =>
    rename_i elem hu hu2
    unfold mzeros at h
    simp only [fList_eq, fNat_eq] at h
    split at h
    case h_2 => simp at h
    rename_i q k n i z hq hi hz
    split at h
    · simp at h
    rename_i hc
    simp only [not_or, Nat.not_lt, ne_eq, Decidable.not_not, Int.not_lt] at hc
    obtain ⟨h0, hb, hzs, h1, h38⟩ := hc
    simp only [Option.some.injEq, Prod.mk.injEq] at h
    obtain ⟨rfl, rfl⟩ := h
    obtain ⟨n, rfl⟩ := Int.eq_ofNat_of_zero_le (a := n) (by omega)
    simp only [Int.toNat_natCast]
    cases hs; cases hx
    have hg := run_zeros (P := P) (w := w) (ty := ty) (k := k) hu hq hi hz h0 hzs n (by omega) (by omega) hb
    have hcap := grownCap_le (need := n) (old := 0) (e := elem) w
    obtain ⟨ρ', a, b, c⟩ := slice_new (hR.drew) base hbase elem (rest := (Builtin.zeroCells z.cells (grownCap w n 0 elem - n)).toList) (lrel_rep ((vconst_rel (run_zeroValue hz w).2).cells) n) i.size false n n (grownCap w n 0 elem) (Nat.le_refl _) hcap (by simp)
      (by rw [List.length_append, zeroCells_length, repCells_length, Array.length_toList, hzs, ← Nat.add_mul]; exact Nat.mul_le_mul_right _ (by omega))
    exact ⟨_, _, ρ', hg, a, b, Ext.drew.trans c⟩
  rename_i elem hu hu2
  split at h
  case h_2 => simp at h
  rename_i i z hi hz
  split at h
  · simp at h
  rename_i hcond
  simp only [not_or, Nat.not_lt, ne_eq, Decidable.not_not] at hcond
  obtain ⟨h0, hb, hzs⟩ := hcond
  split at h
  · simp at h
  rename_i n news hsrc
  obtain ⟨news', hnl, hnk, hlenOf, hfirst⟩ := msource_sound hR hsrc hx (P := P)
  have hf1 := hfirst n rfl w (fun _ => rfl)
  have hf2 := hfirst n rfl w.drew (fun _ => rfl)
  split at h
  · -- nil
    cases hs
    split at h
    · rename_i hn0
      subst hn0
      simp only [Option.some.injEq, Prod.mk.injEq] at h
      obtain ⟨rfl, rfl⟩ := h
      exact ⟨_, w, ρ, run_nothing_nil hu hu2 hi x' hlenOf news' hf1, .sliceNil, hR, Ext.refl _ _ _⟩
    · rename_i hn0
      split at h
      · simp at h
      rename_i h38
      simp only [Option.some.injEq, Prod.mk.injEq] at h
      obtain ⟨rfl, rfl⟩ := h
      have hg := run_grow (P := P) (w := w) (ty := ty) hu hu2 hi hz none 0 0 n x' [] news' hlenOf (by simp [Builtin.firstCells]) hf2 (by omega) (by omega) hb
      simp only [Nat.zero_add, List.nil_append] at hg
      have hcap := grownCap_le (need := n) (old := 0) (e := elem) w
      obtain ⟨ρ', a, b, c⟩ := slice_new (hR.drew) base hbase elem (rest := (Builtin.zeroCells z.cells (grownCap w n 0 elem - n)).toList) hnl i.size false n n (grownCap w n 0 elem) (Nat.le_refl _) hcap (by simp)
        (by rw [List.length_append, zeroCells_length, hnk, hzs, ← Nat.add_mul]; exact Nat.mul_le_mul_right _ (by omega))
      exact ⟨_, _, ρ', hg, a, b, Ext.drew.trans c⟩
  · rename_i r off len cap
    cases hs with
    | slice hr h1 h2 h3 h4 h5 =>
      rename_i off' cap' lc
      split at h
      · rename_i hroom
        split at h
        · rename_i hn0
          subst hn0
          simp only [Option.some.injEq, Prod.mk.injEq] at h
          obtain ⟨rfl, rfl⟩ := h
          have hnil : news' = [] := List.eq_nil_of_length_eq_zero (by simpa using hnk)
          subst hnil
          refine ⟨_, w, ρ, run_inplace hu hu2 hi _ len cap' 0 x' [] w hlenOf hf1 (by simp [storeCells]) (by omega), ?_, hR, Ext.refl _ _ _⟩
          exact .slice hr h1 h2 h3 h4 h5
        · rename_i hn0
          cases hw : mwrite base m r (off + len * i.size) news with
          | none => simp [hw] at h
          | some m1 =>
            simp [hw] at h
            obtain ⟨rfl, rfl⟩ := h
            have hoff : off' = lc.base + off := h4.elim (fun e => by omega) id
            subst hoff
            obtain ⟨w', hst, hR', hE⟩ := hR.write (P := P) hr hw hnl
            rw [← Nat.add_assoc] at hst
            refine ⟨_, w', ρ, run_inplace hu hu2 hi _ len cap' n x' news' w' hlenOf hf1 (by rw [add_eq]; exact hst) (by omega), ?_, hR', hE⟩
            exact .slice hr (by omega) h2 h3 (.inr rfl) h5
      · rename_i hroom
        split at h
        · simp at h
        rename_i h38
        split at h
        case h_2 => simp at h
        rename_i row olds hrow hread
        split at h
        · simp at h
        rename_i hesz
        simp only [ne_eq, Decidable.not_not] at hesz
        have hle : lc.esz = i.size := by rw [← hesz]; exact (hR.row _ _ _ hr hrow).1
        have hlex : lc.ex = row.ex := (hR.row _ _ _ hr hrow).2.1
        -- the old cells, whatever the place
        have hsold : msource m i.size (.slice (some ⟨r, off, none⟩) len cap) = some (len, olds) := by simp [msource, hread]
        obtain ⟨olds', hol, hok, _, hofirst⟩ := msource_sound hR hsold (.slice hr h1 h2 h3 h4 h5) (P := P)
        have hof2 := hofirst len rfl w.drew (fun _ => rfl)
        split at h
        · rename_i hex
          simp only [Option.some.injEq, Prod.mk.injEq] at h
          obtain ⟨rfl, rfl⟩ := h
          have hcc : cap' = cap := h3 (by rw [hlex]; exact hex)
          subst hcc
          have hg := run_grow (P := P) (w := w) (ty := ty) hu hu2 hi hz (some ⟨lc.b, off', none⟩) len cap' n x' olds' news' hlenOf hof2 hf2 (by omega) (by omega) hb
          have hcap := grownCap_le (need := len + n) (old := cap') (e := elem) w
          obtain ⟨ρ', a, b, c⟩ := slice_new (hR.drew) base hbase elem (rest := (Builtin.zeroCells z.cells (grownCap w (len + n) cap' elem - (len + n))).toList) (hol.append hnl) i.size false (len + n) (len + n) (grownCap w (len + n) cap' elem) (Nat.le_refl _) hcap (by simp)
            (by rw [List.length_append, List.length_append, zeroCells_length, hnk, hok, hzs, ← Nat.add_mul, ← Nat.add_mul]; exact Nat.mul_le_mul_right _ (by omega))
          exact ⟨_, _, ρ', hg, a, b, Ext.drew.trans c⟩
        · split at h
          · simp at h
          rename_i hne
          split at h
          case isFalse => simp at h
          rename_i hone
          cases hk : mkill base m r with
          | none => simp [hk] at h
          | some m1 =>
            simp [hk] at h
            obtain ⟨rfl, rfl⟩ := h
            obtain ⟨hbr, row', hrow', hro, rfl⟩ := mkill_some hk
            rw [hrow] at hrow'
            simp only [Option.some.injEq] at hrow'
            subst hrow'
            have hRk := hR.kill hrow
            by_cases hfit : len + n ≤ cap'
            · -- in place: the new row lies where the old one lay
              have hoff : off' = lc.base + off := h4.elim (fun e => by omega) id
              subst hoff
              obtain ⟨_, _, C, T, fz, hh, hCs, hlen, hfz, hcell⟩ := hR.row _ _ _ hr hrow
              obtain rfl := hfz hro
              have hnn : news'.length = n * i.size := hnk
              have hroomC : lc.base + off + len * i.size + news'.length ≤ C.size := by
                have : (len + n) * i.size ≤ cap' * i.size := Nat.mul_le_mul_right _ hfit
                rw [Nat.add_mul] at this
                rw [hle] at h5
                omega
              have hst := run_storeCells_at P lc.b (lc.base + off + len * i.size) T news' 0 C w hh (by omega) (hnl.oneCells hone)
              simp only [Nat.add_zero] at hst
              generalize hC' : (C.toList.take (lc.base + off + len * i.size) ++ news' ++ C.toList.drop (lc.base + off + len * i.size + news'.length)).toArray = C' at hst
              have hC's : C'.toList = splice C.toList (lc.base + off + len * i.size) news' := by rw [← hC']; rfl
              have hsize : C'.size = C.size := by
                have := splice_length (cs := C.toList) (vs := news') (off := lc.base + off + len * i.size) (by simpa using hroomC)
                rw [← hC's] at this
                simpa using this
              have hnone : ρ m.length = none := by
                cases e : ρ m.length with
                | none => rfl
                | some l => have := hR.dom _ _ e; omega
              have hrl : r < m.length := hR.dom _ _ hr
              let lnew : Loc := ⟨lc.b, lc.base + off, lc.size, i.size, false⟩
              let ρ' : Map := fun k => if k = m.length then some lnew else ρ k
              have hρle : ρ.le ρ' := by
                intro k l hk
                have : k ≠ m.length := by intro e; subst e; rw [hnone] at hk; simp at hk
                show (if k = m.length then some lnew else ρ k) = some l
                rw [if_neg this]; exact hk
              have hρn : ρ' m.length = some lnew := by show (if _ then _ else _) = _; rw [if_pos rfl]
              have hρo : ∀ k l, k ≠ m.length → ρ' k = some l → ρ k = some l := by
                intro k l hk hl
                have : (if k = m.length then some lnew else ρ k) = some l := hl
                rwa [if_neg hk] at this
              have hnewlen : (olds ++ news).length = (len + n) * i.size := by rw [List.length_append, hol.1, hnl.1, hok, hnk, Nat.add_mul]
              have hon : olds'.length = len * i.size := hok
              have hdead : ∀ k l rw', ρ k = some l → (m.set r { row with cells := [] })[k]? = some rw' → l.b = lc.b → rw'.cells = [] := by
                intro k l rw' hk hrk hbk
                rw [getElem?_set_row hrl] at hrk
                by_cases e : k = r
                · rw [if_pos e] at hrk
                  simp only [Option.some.injEq] at hrk
                  subst hrk; rfl
                · rw [if_neg e] at hrk
                  rcases Classical.em (rw'.cells = []) with h1 | h1
                  · exact h1
                  · exact absurd hbk.symm (hR.sep r k lc l row rw' hr hk (Ne.symm e) hrow hrk hro (by simpa using hne) h1)
              refine ⟨_, w.setRow lc.b C', ρ', run_inplace hu hu2 hi _ len cap' n x' news' _ hlenOf hf1 (by rw [add_eq]; exact hst) hfit, ?_, ⟨?_, ?_, ?_, hR.gl.of (fun _ hf _ => setRow_other w _ _ _ (Ne.symm (hf r lc hr))) (fun _ hf _ k l hk => by
                by_cases e : k = m.length
                · subst e; rw [hρn] at hk; simp only [Option.some.injEq] at hk; rw [← hk]; exact hf r lc hr
                · exact hf k l (hρo k l e hk))⟩, ⟨hρle, ?_, by simp, rfl, rfl, rfl, ?_⟩⟩
              · exact VRel.slice (l := lnew) hρn (Nat.le_refl _) hfit (by simp [lnew]) (.inr rfl) (by rw [hle] at h5; exact h5)
              · intro k l hk
                by_cases e : k = m.length
                · subst e; simp
                · have := hR.dom _ _ (hρo k l e hk)
                  simp; omega
              · intro k l rw' hk hrk
                by_cases e : k = m.length
                · subst e
                  rw [hρn] at hk
                  simp only [Option.some.injEq] at hk
                  subst hk
                  rw [List.getElem?_append_right (by simp)] at hrk
                  simp at hrk
                  subst hrk
                  refine ⟨rfl, rfl, C', T, (0, 0), setRow_heap w _ C C' T (0, 0) hh, by rw [hsize]; exact hCs, ?_, fun _ => rfl, ?_⟩
                  · show lc.base + off + (olds ++ news).length ≤ lc.size
                    rw [hnewlen, Nat.add_mul]; omega
                  · intro j u hj
                    show ∃ v', C'[lc.base + off + j]? = some v' ∧ VRel ρ' u v'
                    have hall := hol.append hnl
                    obtain ⟨v', hv', hvr⟩ := hall.get hj
                    refine ⟨v', ?_, hvr.mono hρle⟩
                    rw [← Array.getElem?_toList, hC's]
                    by_cases hjo : j < olds'.length
                    · rw [splice_get_out (by simpa using hroomC) (.inl (by omega))]
                      rw [List.getElem?_append_left hjo] at hv'
                      -- the old cell
                      obtain ⟨olds2, hl2, hk2, hcell2⟩ := hR.read hr hread
                      have : olds2[j]? = some v' := by
                        have e1 := hofirst len rfl w (fun _ => rfl)
                        have e2 := run_firstCells_some (P := P) w i.size len ⟨lc.b, lc.base + off, none⟩ len cap' olds2 hk2 hcell2
                        rw [e1] at e2
                        simp only [Result.ok.injEq, and_true] at e2
                        have : olds' = olds2 := by simpa using congrArg Array.toList e2
                        rw [← this]; exact hv'
                      have := hcell2 j v' this
                      rw [add_eq] at this
                      simp [World.cell?, hh] at this
                      rw [Array.getElem?_toList]; exact this
                    · rw [List.getElem?_append_right (by omega)] at hv'
                      have hjn : j - olds'.length < news'.length := (List.getElem?_eq_some_iff.1 hv').1
                      rw [show lc.base + off + j = lc.base + off + len * i.size + (j - olds'.length) by omega, splice_get_in (by simpa using hroomC) hjn]
                      exact hv'
                · have hk' := hρo k l e hk
                  have hkl := hR.dom _ _ hk'
                  rw [List.getElem?_append_left (by simpa using hkl)] at hrk
                  obtain ⟨a1, a2, C2, T2, fz2, hh2, hs2, hl2, hf2', hc2⟩ := hRk.row k l rw' hk' hrk
                  by_cases hbk : l.b = lc.b
                  · have hemp := hdead k l rw' hk' hrk hbk
                    rw [hbk, hh] at hh2
                    simp only [Option.some.injEq, Obj.cells.injEq] at hh2
                    obtain ⟨rfl, rfl, rfl⟩ := hh2
                    exact ⟨a1, a2, C', T, (0, 0), by rw [hbk]; exact setRow_heap w _ C C' T (0, 0) hh, by rw [hsize]; exact hs2, hl2, fun _ => rfl, fun j u hj => by rw [hemp] at hj; simp at hj⟩
                  · exact ⟨a1, a2, C2, T2, fz2, by rw [setRow_other w _ _ _ hbk]; exact hh2, hs2, hl2, hf2', fun j u hj => by obtain ⟨v', x1, x2⟩ := hc2 j u hj; exact ⟨v', x1, x2.mono hρle⟩⟩
              · intro k1 k2 l1 l2 rw1 rw2 hk1 hk2 hne12 hr1 hr2 hro1 hn1 hn2
                by_cases e1 : k1 = m.length
                · have e2 : k2 ≠ m.length := by omega
                  have hk2' := hρo _ _ e2 hk2
                  have hkl2 := hR.dom _ _ hk2'
                  rw [List.getElem?_append_left (by simpa using hkl2)] at hr2
                  subst e1
                  rw [hρn] at hk1
                  simp only [Option.some.injEq] at hk1
                  subst hk1
                  intro hbe
                  exact hn2 (hdead k2 l2 rw2 hk2' hr2 hbe.symm)
                · have hk1' := hρo _ _ e1 hk1
                  have hkl1 := hR.dom _ _ hk1'
                  rw [List.getElem?_append_left (by simpa using hkl1)] at hr1
                  by_cases e2 : k2 = m.length
                  · subst e2
                    rw [hρn] at hk2
                    simp only [Option.some.injEq] at hk2
                    subst hk2
                    intro hbe
                    exact hn1 (hdead k1 l1 rw1 hk1' hr1 hbe)
                  · have hk2' := hρo _ _ e2 hk2
                    have hkl2 := hR.dom _ _ hk2'
                    rw [List.getElem?_append_left (by simpa using hkl2)] at hr2
                    exact hRk.sep k1 k2 l1 l2 rw1 rw2 hk1' hk2' hne12 hr1 hr2 hro1 hn1 hn2
              · intro k l hk
                by_cases e : k = m.length
                · subst e
                  rw [hρn] at hk
                  simp only [Option.some.injEq] at hk
                  subst hk
                  exact .inr ⟨hbase, .inr ⟨r, lc, hr, hbr, rfl⟩⟩
                · exact .inl (hρo k l e hk)
              · intro b _ hfr
                rw [setRow_other w _ _ _ (fun e => hfr r lc hr hbr e.symm)]
            · have hg := run_grow (P := P) (w := w) (ty := ty) hu hu2 hi hz (some ⟨lc.b, off', none⟩) len cap' n x' olds' news' hlenOf hof2 hf2 (by omega) (by omega) hb
              have hcap := grownCap_le (need := len + n) (old := cap') (e := elem) w
              obtain ⟨ρ', a, b, c⟩ := slice_new (hRk.drew) base (by simpa using hbase) elem (rest := (Builtin.zeroCells z.cells (grownCap w (len + n) cap' elem - (len + n))).toList) (hol.append hnl) i.size false (len + n) (len + n) (grownCap w (len + n) cap' elem) (Nat.le_refl _) hcap (by simp)
                (by rw [List.length_append, List.length_append, zeroCells_length, hnk, hok, hzs, ← Nat.add_mul, ← Nat.add_mul]; exact Nat.mul_le_mul_right _ (by omega))
              simp only [List.length_set] at a
              exact ⟨_, _, ρ', hg, a, b, Ext.drew.trans c⟩
  · rename_i r off len cap
    cases hs with
    | sliceX hr h4 h5 =>
      rename_i off' lc
      split at h
      · rename_i hn0
        subst hn0
        simp only [Option.some.injEq, Prod.mk.injEq] at h
        obtain ⟨rfl, rfl⟩ := h
        have hnil : news' = [] := List.eq_nil_of_length_eq_zero (by simpa using hnk)
        subst hnil
        exact ⟨_, w, ρ, run_inplace hu hu2 hi _ len len 0 x' [] w hlenOf hf1 (by simp [storeCells]) (by omega), .sliceX hr h4 h5, hR, Ext.refl _ _ _⟩
      · rename_i hn0
        split at h
        · rename_i hne
          exact absurd rfl hne
        split at h
        · simp at h
        rename_i h38
        split at h
        case h_2 => simp at h
        rename_i row olds hrow hread
        split at h
        · simp at h
        rename_i hesz
        simp only [ne_eq, Decidable.not_not] at hesz
        have hsold : msource m i.size (.slice (some ⟨r, off, none⟩) len len) = some (len, olds) := by simp [msource, hread]
        obtain ⟨olds', hol, hok, _, hofirst⟩ := msource_sound hR hsold (.slice hr (Nat.le_refl _) (Nat.le_refl _) (fun _ => rfl) h4 h5) (P := P)
        have hof2 := hofirst len rfl w.drew (fun _ => rfl)
        simp only [Option.some.injEq, Prod.mk.injEq] at h
        obtain ⟨rfl, rfl⟩ := h
        have hg := run_grow (P := P) (w := w) (ty := ty) hu hu2 hi hz (some ⟨lc.b, off', none⟩) len len n x' olds' news' hlenOf hof2 hf2 (by omega) (by omega) hb
        have hcap := grownCap_le (need := len + n) (old := len) (e := elem) w
        obtain ⟨ρ', a, b, c⟩ := slice_new (hR.drew) base hbase elem (rest := (Builtin.zeroCells z.cells (grownCap w (len + n) len elem - (len + n))).toList) (hol.append hnl) i.size false (len + n) (len + n) (grownCap w (len + n) len elem) (Nat.le_refl _) hcap (by simp)
          (by rw [List.length_append, List.length_append, zeroCells_length, hnk, hok, hzs, ← Nat.add_mul, ← Nat.add_mul]; exact Nat.mul_le_mul_right _ (by omega))
        exact ⟨_, _, ρ', hg, a, b, Ext.drew.trans c⟩
  · simp at h
end
end Go.AM
