import Derived.KernelRfl
import Derived.Laws.BytesArg
import Derived.Laws.StructEq
import Derived.RangeFuncLeaves
import Derived.RangeFuncRecord
import Derived.Test.YtnefldkiipdckaaProg
import Derived.Test.YtnefldkiipdckaaRows
import Derived.WalkKit
import Derived.Test.YtnefldkiipdckaaAmB
import Derived.Test.YtnefldkiipdckaaAmG
import Derived.Test.YtnefldkiipdckaaAmModel
import Derived.Test.YtnefldkiipdckaaAmRel
import Derived.Test.YtnefldkiipdckaaAmOps6
import Derived.Test.YtnefldkiipdckaaAmCode
import Derived.Test.YtnefldkiipdckaaAmDraw5
import Derived.Test.YtnefldkiipdckaaAmEq
import Derived.Test.YtnefldkiipdckaaRBase
import Derived.Test.YtnefldkiipdckaaR58
import Derived.Test.YtnefldkiipdckaaR107
import Derived.Test.YtnefldkiipdckaaAmS
import Derived.Test.YtnefldkiipdckaaS16
set_option linter.unusedVariables false
set_option linter.unusedSimpArgs false
set_option linter.unusedSectionVars false
namespace Go.AM
open Go Go.Proofs
def k1n (o : Option Value) (k : Value → Res2) : Res2 := match o with
 | some r => k r
 | none => none
theorem k1_fun : k1 = k1n := by
 funext o k
 cases o with
 | none => rfl
 | some v => exact fVal_eq v k
end Go.AM
namespace Go.AM
open Go Go.Proofs
abbrev nilS : Value := .slice none 0 0
abbrev emS : Value := .slice (some ⟨0, 0, some 1⟩) 0 0
abbrev slo (p off l c : Nat) : Value := .slice (some ⟨p, off, none⟩) l c
abbrev sl (p N : Nat) : Value := .slice (some ⟨p, 0, none⟩) N N
abbrev pt (p off : Nat) : Value := .pointer (some ⟨p, off, none⟩)
theorem fVal_fun : (@fVal Res2 : Value → (Value → Res2) → Res2) = fun v k => k v := by
 funext v k
 exact fVal_eq v k
noncomputable def vcalln (P : Program) (base : Nat) (m : M) (b : Builtin) (tys : List TypeId) (vs : List Value) : Option (Value × M) := match b with
 | .len => match tys, vs with
  | t :: _, [x] => match mlen P t x with
   | some r => some (r, m)
   | none => none
  | _, _ => none
 | .min => match vs with
  | x :: xs => match mfold mmin2 x xs with
   | some r => some (r, m)
   | none => none
  | _ => none
 | .max => match vs with
  | x :: xs => match mfold mmax2 x xs with
   | some r => some (r, m)
   | none => none
  | _ => none
 | b => xbuiltin P base m b tys vs
theorem vcall_fun : vcall = vcalln := by
 funext P base m b tys vs
 unfold vcall vcalln
 cases b <;> first
  | rfl
  | (simp only [xbuiltin, obuiltin, fVal_eq]; done)
  | (simp only [xbuiltin, obuiltin, fVal_eq]; rfl)
def vi (n : Int) : Value := .int .i64 n
theorem k2s (a : Value) (m : M) (k : Value → M → Res2) : k2 (some (a, m)) k = k a m := Eq.trans rfl rfl
theorem k1s (a : Value) (k : Value → Res2) : k1n (some a) k = k a := Eq.trans rfl rfl
theorem kss (m : M) (k : M → Res2) : ks (some m) k = k m := Eq.trans rfl rfl
theorem kcs (a : Value) (m : M) (k p : Value → M → Res2) : kc (some (.ret a, m)) k p = k a m := Eq.trans rfl rfl
theorem kbt (t f : Res2) : kb (.bool true) t f = t := Eq.trans rfl rfl
theorem kbf (t f : Res2) : kb (.bool false) t f = f := Eq.trans rfl rfl
theorem k0s (a : Value) (k : Value → Res2) : k0 (some a) k = k a := Eq.trans rfl rfl
theorem kexs (r : Res2) : kexv true r = r := Eq.trans rfl rfl
theorem kB_same (m : M) (v : Value) : kB m (some (.ret v, m)) = some (.ret v, m) := by
 simp only [kB, List.drop_length, List.append_nil, fList_eq]
theorem i0 : (.int .i64 0 : Value) = vi ((0 : Nat) : Int) := rfl
theorem i1 : (.int .i64 1 : Value) = vi ((1 : Nat) : Int) := rfl
abbrev wr (n : Int) : Int := IntKind.i64.wrap n
theorem wr_id {n : Int} (h0 : -4611686018427387904 ≤ n) (h1 : n ≤ 4611686018427387904) : wr n = n := by
 unfold wr IntKind.wrap
 simp [IntKind.bits, IntKind.signed]
 omega
theorem addI (t : TypeId) (a b : Int) : mbin E .add t (vi a) (vi b) = some (vi (wr (a + b))) := rfl
theorem subI (t : TypeId) (a b : Int) : mbin E .sub t (vi a) (vi b) = some (vi (wr (a - b))) := rfl
theorem lssI (t : TypeId) (a b : Int) : mbin E .lss t (vi a) (vi b) = some (.bool (decide (a < b))) := rfl
theorem leqI (t : TypeId) (a b : Int) : mbin E .leq t (vi a) (vi b) = some (.bool (decide (a ≤ b))) := rfl
theorem gtrI (t : TypeId) (a b : Int) : mbin E .gtr t (vi a) (vi b) = some (.bool (decide (a > b))) := rfl
theorem geqI (t : TypeId) (a b : Int) : mbin E .geq t (vi a) (vi b) = some (.bool (decide (a ≥ b))) := rfl
theorem eqlI (t : TypeId) (a b : Int) : mbin E .eql t (vi a) (vi b) = some (.bool (decide (a = b))) := by
 have e : mbin E .eql t (vi a) (vi b) = some (.bool (a == b)) := rfl
 rw [e]; congr 2
theorem neqI (t : TypeId) (a b : Int) : mbin E .neq t (vi a) (vi b) = some (.bool (!decide (a = b))) := by
 have e : mbin E .neq t (vi a) (vi b) = some (.bool (!(a == b))) := rfl
 rw [e]; congr 2
theorem natdec (a b : Nat) : decide ((a : Int) = b) = decide (a = b) := decide_eq_decide.2 (by omega)
theorem lssN (t : TypeId) (i j : Nat) : mbin E .lss t (vi i) (vi j) = some (.bool (decide (i < j))) := by
 rw [lssI]
 congr 2
 exact decide_eq_decide.2 (by omega)
theorem add1 (t : TypeId) (j : Nat) (h : j ≤ 1000000) : mbin E .add t (vi j) (.int .i64 1) = some (vi ((j + 1 : Nat) : Int)) := by
 have e : mbin E .add t (vi j) (.int .i64 1) = some (vi (wr ((j : Int) + 1))) := rfl
 rw [e, wr_id (by omega) (by omega)]
 rfl
theorem notB (t : TypeId) (b : Bool) : mun .not (.bool b) = some (.bool !b) := rfl
theorem vmax (base : Nat) (m : M) (t u : TypeId) (a b : Int) : vcalln E.P base m .max [t, u] [vi a, vi b] = some (vi (max a b), m) := by
 have e : vcalln E.P base m .max [t, u] [vi a, vi b] = some (vi (if b > a then b else a), m) := rfl
 rw [e]
 congr 3
 by_cases h : b > a
 ·rw [if_pos h]; omega
 ·rw [if_neg h]; omega
theorem ext0 (a b : Value) : mextract 0 (.tuple #[a, b]) = some a := rfl
theorem ext1 (a b : Value) : mextract 1 (.tuple #[a, b]) = some b := rfl
def rowz (z : Nat) (ex : Bool) (cs : List Value) : Row := { esz := z, ex := ex, ro := false, cells := cs }
abbrev cellR (cs : List Value) : Row := rowz 0 true cs
def Hd (m : M) (r z : Nat) (ex : Bool) (n : Nat) : Prop := ∃ row, m[r]? = some row ∧ row.esz = z ∧ row.ex = ex ∧ row.ro = false ∧ row.cells.length = n
def Cs (m : M) (r off : Nat) (l : List Value) : Prop := ∀ i v, l[i]? = some v → mcell m r (off + i) = some v
theorem Hd.lt {m : M} {r z n : Nat} {ex : Bool} (h : Hd m r z ex n) : r < m.length := by
 obtain ⟨row, h, _⟩ := h
 exact (List.getElem?_eq_some_iff.1 h).1
theorem mcell_lt {m : M} {r j : Nat} {v : Value} (h : mcell m r j = some v) : r < m.length := by
 unfold mcell at h
 cases e : m[r]? with
 | none => rw [e] at h; simp at h
 | some row => exact (List.getElem?_eq_some_iff.1 e).1
theorem mcell_congr {m m' : M} {r : Nat} (h : m'[r]? = m[r]?) (j : Nat) : mcell m' r j = mcell m r j := by
 unfold mcell; rw [h]
theorem Hd.congr {m m' : M} {r z n : Nat} {ex : Bool} (h : Hd m r z ex n) (e : m'[r]? = m[r]?) : Hd m' r z ex n := by
 obtain ⟨row, h⟩ := h
 exact ⟨row, by rw [e]; exact h.1, h.2⟩
theorem Cs.congr {m m' : M} {r off : Nat} {l : List Value} (h : Cs m r off l) (e : m'[r]? = m[r]?) : Cs m' r off l := fun i v hi => by
 rw [mcell_congr e]; exact h i v hi
theorem Cs.cell {m : M} {r off : Nat} {v : Value} (h : Cs m r off [v]) : mcell m r off = some v := h 0 v rfl
theorem Cs.one {m : M} {r off : Nat} {v : Value} (h : mcell m r off = some v) : Cs m r off [v] := fun i u hi => by
 cases i with
 | zero => simp at hi; subst hi; exact h
 | succ i => simp at hi
theorem Cs.at {m : M} {r off : Nat} {l : List Value} (h : Cs m r off l) (i : Nat) {v : Value} (hv : l[i]? = some v) : mcell m r (off + i) = some v := h i v hv
theorem Cs.app {m : M} {r off : Nat} {a b : List Value} (h1 : Cs m r off a) (h2 : Cs m r (off + a.length) b) : Cs m r off (a ++ b) := fun i v hi => by
 by_cases h : i < a.length
 ·rw [List.getElem?_append_left h] at hi
  exact h1 i v hi
 ·rw [List.getElem?_append_right (by omega)] at hi
  have := h2 _ v hi
  rw [show off + a.length + (i - a.length) = off + i by omega] at this
  exact this
theorem mread_cs {m : M} {r off : Nat} {l : List Value} (h : Cs m r off l) (hl : l ≠ []) : mread m r off l.length = some l := by
 have h0 : 0 < l.length := List.length_pos_iff.2 hl
 have hc := h (l.length - 1) l[l.length - 1] (List.getElem?_eq_getElem _)
 unfold mread
 unfold mcell at hc
 have hall : ∀ row, m[r]? = some row → ∀ i v, l[i]? = some v → row.cells[off + i]? = some v := fun row hr i v hi => by
  have := h i v hi
  unfold mcell at this
  rw [hr] at this
  exact this
 cases e : m[r]? with
 | none => rw [e] at hc; simp at hc
 | some row =>
  rw [e] at hc
  simp only at hc ⊢
  have hlt := (List.getElem?_eq_some_iff.1 hc).1
  rw [if_pos (by omega)]
  congr 1
  apply List.ext_getElem?
  intro i
  rw [List.getElem?_take, List.getElem?_drop]
  by_cases hi : i < l.length
  ·rw [if_pos hi, List.getElem?_eq_getElem hi]
   exact hall row e i _ (List.getElem?_eq_getElem hi)
  ·rw [if_neg hi, List.getElem?_eq_none (by omega)]
theorem mread0 {m : M} {r off : Nat} {z n : Nat} {ex : Bool} (h : Hd m r z ex n) (ho : off ≤ n) : mread m r off 0 = some [] := by
 obtain ⟨row, h1, h2, h3, h4, h5⟩ := h
 unfold mread
 rw [h1]
 simp only
 rw [if_pos (by omega)]
 simp
theorem push_get {m x : M} {r : Nat} (h : r < m.length) : (m ++ x)[r]? = m[r]? := List.getElem?_append_left h
theorem push_new (m : M) (row : Row) : (m ++ [row])[m.length]? = some row := by simp
theorem mcell_new (m : M) (row : Row) (j : Nat) : mcell (m ++ [row]) m.length j = row.cells[j]? := by
 unfold mcell; rw [push_new]
theorem Hd_new (m : M) (z : Nat) (ex : Bool) (cs : List Value) : Hd (m ++ [rowz z ex cs]) m.length z ex cs.length := ⟨_, push_new _ _, rfl, rfl, rfl, rfl⟩
theorem Cs_new (m : M) (z : Nat) (ex : Bool) (cs : List Value) : Cs (m ++ [rowz z ex cs]) m.length 0 cs := fun i v hi => by
 rw [mcell_new, Nat.zero_add]; exact hi
def mwr (m : M) (p off : Nat) (vs : List Value) : M := match m[p]? with
 | some row => if off + vs.length ≤ row.cells.length then m.set p { row with cells := splice row.cells off vs } else m
 | none => m
theorem splice_len {cs : List Value} {off : Nat} {vs : List Value} (h : off + vs.length ≤ cs.length) : (splice cs off vs).length = cs.length := by
 unfold splice; simp; omega
theorem splice_get {cs : List Value} {off : Nat} {vs : List Value} (h : off + vs.length ≤ cs.length) (j : Nat) : (splice cs off vs)[j]? = if off ≤ j ∧ j < off + vs.length then vs[j - off]? else cs[j]? := by
 unfold splice
 have h1 : (cs.take off).length = off := by simp; omega
 by_cases a : j < off
 ·rw [if_neg (by omega), List.append_assoc, List.getElem?_append_left (by omega), List.getElem?_take, if_pos a]
 ·by_cases b : j < off + vs.length
  ·rw [if_pos (by omega), List.append_assoc, List.getElem?_append_right (by omega), h1, List.getElem?_append_left (by omega)]
  ·rw [if_neg (by omega), List.getElem?_append_right (by simp; omega), List.getElem?_drop]
   congr 1
   simp
   omega
theorem mwr_len (m : M) (p off : Nat) (vs : List Value) : (mwr m p off vs).length = m.length := by
 unfold mwr
 split
 ·split
  ·simp
  ·rfl
 ·rfl
theorem mwr_ne {m : M} {p off : Nat} {vs : List Value} {r : Nat} (h : r ≠ p) : (mwr m p off vs)[r]? = m[r]? := by
 unfold mwr
 split
 ·split
  ·exact List.getElem?_set_ne (fun e => h e.symm)
  ·rfl
 ·rfl
theorem mwr_hd {m : M} {p off : Nat} {vs : List Value} {r z n : Nat} {ex : Bool} (h : Hd m r z ex n) : Hd (mwr m p off vs) r z ex n := by
 by_cases e : r = p
 ·subst e
  obtain ⟨row, h1, h2, h3, h4, h5⟩ := h
  unfold mwr
  rw [h1]
  simp only
  split
  ·rename_i hl
   refine ⟨_, List.getElem?_set_self (List.getElem?_eq_some_iff.1 h1).1, h2, h3, h4, ?_⟩
   rw [splice_len hl]; exact h5
  ·exact ⟨row, h1, h2, h3, h4, h5⟩
 ·exact h.congr (mwr_ne e)
theorem mwr_out {m : M} {p off : Nat} {vs : List Value} {r j : Nat} (h : r ≠ p ∨ j < off ∨ off + vs.length ≤ j) : mcell (mwr m p off vs) r j = mcell m r j := by
 by_cases e : r = p
 ·subst e
  have h : j < off ∨ off + vs.length ≤ j := by omega
  unfold mwr
  cases hr : m[r]? with
  | none => rfl
  | some row =>
   simp only
   split
   ·rename_i hl
    unfold mcell
    rw [List.getElem?_set_self (List.getElem?_eq_some_iff.1 hr).1, hr]
    simp only
    rw [splice_get hl, if_neg (by omega)]
   ·rfl
 ·exact mcell_congr (mwr_ne e) j
theorem mwr_in {m : M} {p off z n : Nat} {ex : Bool} {vs : List Value} (h : Hd m p z ex n) (hl : off + vs.length ≤ n) : Cs (mwr m p off vs) p off vs := fun i v hi => by
 obtain ⟨row, h1, h2, h3, h4, h5⟩ := h
 have hlt := (List.getElem?_eq_some_iff.1 hi).1
 unfold mwr
 rw [h1]
 simp only
 rw [if_pos (by omega)]
 unfold mcell
 rw [List.getElem?_set_self (List.getElem?_eq_some_iff.1 h1).1]
 simp only
 rw [splice_get (by omega), if_pos (by omega)]
 rw [show off + i - off = i by omega]
 exact hi
theorem Cs.wr {m : M} {p off : Nat} {vs : List Value} {r o : Nat} {l : List Value} (h : Cs m r o l) (hne : r ≠ p ∨ o + l.length ≤ off ∨ off + vs.length ≤ o) : Cs (mwr m p off vs) r o l := fun i v hi => by
 have hlt := (List.getElem?_eq_some_iff.1 hi).1
 rw [mwr_out (by omega)]
 exact h i v hi
theorem mwrite_ok {base : Nat} {m : M} {p off z n : Nat} {ex : Bool} {vs : List Value} (hb : base ≤ p) (h : Hd m p z ex n) (hl : off + vs.length ≤ n) (hv : vs.all (·.oneCell') = true) : mwrite base m p off vs = some (mwr m p off vs) := by
 obtain ⟨row, h1, h2, h3, h4, h5⟩ := h
 unfold mwrite mwr
 rw [if_neg (by omega), h1]
 simp only [h4, Bool.false_eq_true, if_false]
 rw [if_pos (by omega), if_pos hv, fList_eq, fList_eq, if_pos (by omega)]
noncomputable def agg1 (t : TypeId) : Bool := match isAggB E.P t with
 | some false => true
 | _ => false
noncomputable def aggk (t : TypeId) (k : Nat) : Bool := match isAggB E.P t, szOf E.P t with
 | some true, some n => Nat.beq n k
 | _, _ => false
noncomputable def szk (t : TypeId) (k : Nat) : Bool := match szOf E.P t with
 | some n => Nat.beq n k
 | none => false
theorem szk_eq {t : TypeId} {k : Nat} (h : szk t k = true) : szOf E.P t = some k := by
 unfold szk at h
 split at h
 ·rename_i n hn; rw [hn, Nat.eq_of_beq_eq_true h]
 ·simp at h
theorem gld1 {t : TypeId} (h : agg1 t = true) (m : M) (r off : Nat) : xload E.P m t (pt r off) = mcell m r off := by
 rw [xload_eq]
 unfold agg1 at h
 unfold mload
 split at h
 ·rename_i e; simp only [e]
 ·simp at h
theorem gldk {t : TypeId} {k : Nat} (h : aggk t k = true) {m : M} {r off : Nat} {l : List Value} (hc : Cs m r off l) (hl : l.length = k) (h0 : l ≠ []) : xload E.P m t (pt r off) = some (.agg l.toArray) := by
 rw [xload_eq]
 unfold aggk at h
 unfold mload
 split at h
 ·rename_i n e1 e2
  simp only [e1, e2]
  rw [Nat.eq_of_beq_eq_true h, ← hl, mread_cs hc h0]
  rfl
 ·simp at h
theorem gst {t : TypeId} {n : Nat} (h : szk t n = true) {v : Value} (hv : v.cells.size = n) (base : Nat) (m : M) (p off : Nat) : xstore E.P base m t (pt p off) v = mwrite base m p off v.cells.toList := by
 rw [xstore_eq]
 unfold mstore
 rw [szk_eq h]
 simp only
 rw [if_pos hv]
theorem gst1 {t : TypeId} (h : szk t 1 = true) {v : Value} (hc : v.cells = #[v]) (h1 : v.oneCell' = true) {base : Nat} {m : M} {p off z n : Nat} {ex : Bool} (hb : base ≤ p) (hd : Hd m p z ex n) (ho : off < n) : xstore E.P base m t (pt p off) v = some (mwr m p off [v]) := by
 rw [gst h (by rw [hc]; rfl), hc, mwrite_ok hb hd (by simp; omega) (by simpa using h1)]
theorem gstk {t : TypeId} {k : Nat} (h : szk t k = true) {l : List Value} (hl : l.length = k) (h1 : l.all (·.oneCell') = true) {base : Nat} {m : M} {p off z n : Nat} {ex : Bool} (hb : base ≤ p) (hd : Hd m p z ex n) (ho : off + k ≤ n) : xstore E.P base m t (pt p off) (.agg l.toArray) = some (mwr m p off l) := by
 have hc : (Value.agg l.toArray).cells = l.toArray := rfl
 rw [gst h (by rw [hc]; simpa using hl), hc, List.toList_toArray, mwrite_ok hb hd (by omega) h1]
noncomputable def slk (t : TypeId) (z : Nat) : Bool := match E.P.underlying t with
 | some (.slice e) => szk e z
 | _ => false
theorem gix {t : TypeId} {z : Nat} (h : slk t z = true) (p off l c j : Nat) (hj : j < l) : mindexAddr E.P t (slo p off l c) (vi j) = some (pt p (off + j * z)) := by
 unfold slk at h
 unfold mindexAddr
 split at h
 ·rename_i e he
  rw [he]
  simp only [vi]
  rw [szk_eq h]
  simp only
  rw [if_pos (by omega)]
  simp
 ·simp at h
noncomputable def ark (t : TypeId) (n z : Nat) : Bool := match E.P.underlying t with
 | some (.array k e) => Nat.beq k n && szk e z
 | _ => false
theorem giA {t : TypeId} {n z : Nat} (h : ark t n z = true) (p off j : Nat) (hj : j < n) : mindexAddr E.P t (pt p off) (vi j) = some (pt p (off + j * z)) := by
 unfold ark at h
 unfold mindexAddr
 split at h
 ·rename_i k e he
  rw [Bool.and_eq_true] at h
  rw [he]
  simp only [vi]
  rw [szk_eq h.2]
  simp only
  rw [Nat.eq_of_beq_eq_true h.1, if_pos (by omega)]
  simp
 ·simp at h
noncomputable def fdk (t : TypeId) (f o : Nat) : Bool := match E.P.underlying t with
 | some (.struct fields) => match fields[f]? with
  | some fd => match szOf E.P fd.type with
   | some (_ + 1) => Nat.beq fd.offset o
   | _ => false
  | none => false
 | _ => false
theorem gfd {t : TypeId} {f o : Nat} (h : fdk t f o = true) (p off : Nat) : mfieldAddr E.P t (pt p off) f = some (pt p (off + o)) := by
 unfold fdk at h
 unfold mfieldAddr
 split at h
 ·rename_i fields he
  rw [he]
  simp only
  split at h
  ·rename_i fd hf
   rw [hf]
   simp only
   split at h
   ·rename_i k hk
    rw [hk]
    simp only
    rw [Nat.eq_of_beq_eq_true h]
   ·simp at h
  ·simp at h
 ·simp at h
noncomputable def isSl (t : TypeId) : Bool := match E.P.underlying t with
 | some (.slice _) => true
 | _ => false
theorem glen {t : TypeId} (h : isSl t = true) (base : Nat) (m : M) (a : Option Addr) (l c : Nat) : vcalln E.P base m .len [t] [.slice a l c] = some (vi l, m) := by
 unfold isSl at h
 simp only [vcalln, mlen]
 split at h
 ·rename_i el he
  rw [he]
  rfl
 ·simp at h
theorem gsl {t : TypeId} {z : Nat} (h : slk t z = true) {m : M} {p n : Nat} {ex : Bool} (hd : Hd m p z ex n) {off l c : Nat} (lo hi : Option Value) (a b : Nat) (ha : optNat 0 lo = some a) (hb : optNat l hi = some b) (h1 : b ≤ c) (h2 : a ≤ b) : mslice E.P m t (slo p off l c) lo hi none = some (slo p (off + a * z) (b - a) (c - a)) := by
 unfold slk at h
 unfold mslice
 split at h
 ·rename_i e he
  obtain ⟨row, r1, r2, r3, r4, r5⟩ := hd
  rw [he]
  simp only [ha, hb, szk_eq h, r1, r2]
  rw [if_pos ⟨h1, h2⟩, if_pos True.intro]
 ·simp at h
theorem gslA {t : TypeId} {n z : Nat} (h : ark t n z = true) (m : M) (p off : Nat) (hi : Option Value) (b : Nat) (hb : optNat n hi = some b) (h1 : b ≤ n) : mslice E.P m t (pt p off) none hi none = some (.slice (some ⟨p, off, some 2⟩) b n) := by
 unfold ark at h
 unfold mslice
 split at h
 ·rename_i k e he
  rw [Bool.and_eq_true] at h
  have hk := Nat.eq_of_beq_eq_true h.1
  subst hk
  rw [he]
  simp only [hb, szk_eq h.2]
  rw [if_pos h1]
 ·simp at h
def mkl (m : M) (r : Nat) : M := match m[r]? with
 | some row => m.set r { row with cells := [] }
 | none => m
theorem mkl_len (m : M) (r : Nat) : (mkl m r).length = m.length := by
 unfold mkl
 split
 ·simp
 ·rfl
theorem mkl_ne {m : M} {r i : Nat} (h : i ≠ r) : (mkl m r)[i]? = m[i]? := by
 unfold mkl
 split
 ·exact List.getElem?_set_ne (fun e => h e.symm)
 ·rfl
noncomputable def appOk (t : TypeId) (z : Nat) : Bool := match E.P.underlying t with
 | some (.slice e) => match srcOk E.P t, E.P.info? e, zeroOf E.P e with
  | true, some i, some zv => Nat.beq i.size z && (!Nat.beq z 0 && (Nat.ble i.bytes 256 && Nat.beq zv.cells.size z))
  | _, _, _ => false
 | _ => false
noncomputable def appF (z base : Nat) (m : M) (s x : Value) : Option (Value × M) :=
 match xsource m z x with
 | none => none
 | some (n, news) =>
  match s with
  | .slice none 0 0 =>
   if n = 0 then some (s, m) else
   if n > 2 ^ 38 then none else
   xlen m fun k => fList news fun cs => xpush m { esz := z, ex := false, ro := false, cells := cs } fun m' => some (.slice (some ⟨k, 0, none⟩) n n, m')
  | .slice (some ⟨r, off, none⟩) len cap =>
   if len + n ≤ cap then
    if n = 0 then some (s, m) else
    (xwrite base m r (off + len * z) news).bind fun m' => fNat (len + n) fun k => some (.slice (some ⟨r, off, none⟩) k cap, m')
   else
    if len + n > 2 ^ 38 then none else
    match xget m r, xread m r off (len * z) with
    | some row, some olds =>
     if row.esz ≠ z then none else
     xlen m fun k => fNat (len + n) fun c => fList (olds ++ news) fun cs =>
     if row.ex then xpush m { esz := z, ex := false, ro := false, cells := cs } fun m' => some (.slice (some ⟨k, 0, none⟩) c c, m')
     else if row.cells.isEmpty then none
     else if news.all (·.oneCell') then xkill base m r fun m' => xpush m' { esz := z, ex := false, ro := false, cells := cs } fun m' => some (.slice (some ⟨k, 0, none⟩) c c, m')
     else none
    | _, _ => none
  | .slice (some ⟨r, off, some 0⟩) len cap =>
   if n = 0 then some (s, m) else
   if len ≠ cap then none else
   if len + n > 2 ^ 38 then none else
   match xget m r, xread m r off (len * z) with
   | some row, some olds =>
    if row.esz ≠ z then none else
    xlen m fun k => fNat (len + n) fun c => fList (olds ++ news) fun cs =>
    xpush m { esz := z, ex := false, ro := false, cells := cs } fun m' => some (.slice (some ⟨k, 0, none⟩) c c, m')
   | _, _ => none
  | _ => none
theorem vapp {t : TypeId} {z : Nat} (h : appOk t z = true) (base : Nat) (m : M) (s x : Value) : vcalln E.P base m .append [t, t] [s, x] = appF z base m s x := by
 have e : vcalln E.P base m .append [t, t] [s, x] = xappend E.P base m [t, t] s x := rfl
 rw [e]
 unfold appOk at h
 unfold xappend
 split at h
 ·rename_i el he
  simp only [he]
  split at h
  ·rename_i i zv h1 h2 h3
   rw [Bool.and_eq_true, Bool.and_eq_true, Bool.and_eq_true] at h
   obtain ⟨h4, h5, h6, h7⟩ := h
   have h4 := Nat.eq_of_beq_eq_true h4
   have h6 := Nat.le_of_ble_eq_true h6
   have h7 := Nat.eq_of_beq_eq_true h7
   have h5 : z ≠ 0 := by
    intro e
    subst e
    simp at h5
   simp only [h1, h2, h3]
   rw [if_neg (by omega), h4]
   rfl
  ·simp at h
 ·simp at h
theorem xsource_row {m : M} {z k off c cap : Nat} {cs : List Value} (hc : Cs m k off cs) (hl : cs.length = c * z) (h0 : cs ≠ []) : xsource m z (slo k off c cap) = some (c, cs) := by
 have e : xsource m z (slo k off c cap) = (xread m k off (c * z)).map fun cs => (c, cs) := rfl
 rw [e, xread_eq, ← hl, mread_cs hc h0]
 rfl
theorem app_nil {z base : Nat} {m : M} {x : Value} {n : Nat} {news : List Value} (hs : xsource m z x = some (n, news)) (h1 : 1 ≤ n) (h2 : n ≤ 1000000) : appF z base m nilS x = some (sl m.length n, m ++ [rowz z false news]) := by
 unfold appF
 rw [hs]
 simp only
 rw [if_neg (by omega), if_neg (by omega), xlen_eq, fNat_eq, fList_eq, xpush_eq, fList_eq]
 rfl
theorem app_some {z base : Nat} {m : M} {x : Value} {r off len n N : Nat} {ex : Bool} {olds news : List Value} (hs : xsource m z x = some (n, news)) (hb : base ≤ r) (hd : Hd m r z ex N) (hN : ex = true ∨ 0 < N) (ho : off + len * z ≤ N) (hold : Cs m r off olds) (hlen : olds.length = len * z)
  (h1 : 1 ≤ n) (h2 : n ≤ 1000000) (h3 : len ≤ 1000000) (hv : news.all (·.oneCell') = true) : appF z base m (slo r off len len) x = some (sl m.length (len + n), (if ex then m else mkl m r) ++ [rowz z false (olds ++ news)]) := by
 unfold appF
 rw [hs]
 simp only
 have q2 : xread m r off (len * z) = some olds := by
  rw [xread_eq]
  by_cases e : olds = []
  ·subst e
   rw [← hlen]
   exact mread0 hd (by omega)
  ·rw [← hlen]; exact mread_cs hold e
 obtain ⟨row, r1, r2, r3, r4, r5⟩ := hd
 rw [if_neg (by omega), if_neg (by omega), q2, xget_eq, r1]
 simp only
 rw [if_neg (by simp [r2]), xlen_eq, fNat_eq, fNat_eq, fList_eq, r3]
 cases ex with
 | true =>
  rw [if_pos rfl, if_pos rfl, xpush_eq, fList_eq]
  rfl
 | false =>
  have hne : row.cells.isEmpty = false := by
   cases h : row.cells with
   | nil => rw [h] at r5; simp at r5 hN; omega
   | cons a l => rfl
  rw [if_neg (by simp), if_neg (by simp [hne]), if_pos hv, if_neg (by simp), xkill_eq]
  unfold mkill mkl
  rw [if_neg (by omega), r1]
  simp only [r4, Bool.false_eq_true, if_false, fList_eq, Option.bind_some, xpush_eq]
  rfl
theorem app_none {z base : Nat} {m : M} {s x : Value} {a : Option Addr} (hs : xsource m z x = some (0, [])) (h : s = nilS ∨ (∃ r off l c, s = slo r off l c ∧ l ≤ c) ∨ ∃ r off l, s = .slice (some ⟨r, off, some 0⟩) l l) : appF z base m s x = some (s, m) := by
 unfold appF
 rw [hs]
 rcases h with rfl | ⟨r, off, l, c, rfl, hl⟩ | ⟨r, off, l, rfl⟩
 ·simp only; rfl
 ·simp only
  rw [if_pos (by omega)]; rfl
 ·simp only; rfl
structure Step (T : Nat → Prop) (own : Nat → Nat) (m : M) (own' : Nat → Nat) (m' : M) : Prop where
 len : m.length ≤ m'.length
 tg : ∀ r, r < m.length → own' r = own r
 keep : ∀ r, r < m.length → ¬ T (own r) → m'[r]? = m[r]?
theorem Step.refl (T : Nat → Prop) (own : Nat → Nat) (m : M) : Step T own m own m := ⟨Nat.le_refl _, fun _ _ => rfl, fun _ _ _ => rfl⟩
theorem Step.trans {T : Nat → Prop} {o o1 o2 : Nat → Nat} {m m1 m2 : M} (h : Step T o m o1 m1) (k : Step T o1 m1 o2 m2) : Step T o m o2 m2 := by
 refine ⟨Nat.le_trans h.len k.len, fun r hr => ?_, fun r hr ht => ?_⟩
 ·rw [k.tg r (Nat.lt_of_lt_of_le hr h.len), h.tg r hr]
 ·rw [k.keep r (Nat.lt_of_lt_of_le hr h.len) (by rw [h.tg r hr]; exact ht), h.keep r hr ht]
theorem Step.mono {T T' : Nat → Prop} {o o1 : Nat → Nat} {m m1 : M} (h : Step T o m o1 m1) (ht : ∀ t, T t → T' t) : Step T' o m o1 m1 := ⟨h.len, h.tg, fun r hr hn => h.keep r hr fun a => hn (ht _ a)⟩
def upd {α : Type} (f : Nat → α) (i : Nat) (x : α) : Nat → α := fun j => if j = i then x else f j
theorem upd_self {α : Type} (f : Nat → α) (i : Nat) (x : α) : upd f i x i = x := by simp [upd]
theorem upd_ne {α : Type} (f : Nat → α) {i j : Nat} (x : α) (h : j ≠ i) : upd f i x j = f j := by simp [upd, h]
def Own (base : Nat) (own : Nat → Nat) : Prop := ∀ r, own r ≠ 0 → base ≤ r
theorem Own.upd {base : Nat} {own : Nat → Nat} (h : Own base own) {r : Nat} (hr : base ≤ r) (t : Nat) : Own base (upd own r t) := fun i hi => by
 by_cases e : i = r
 ·subst e; exact hr
 ·rw [upd_ne _ _ e] at hi
  exact h i hi
theorem Step.push (T : Nat → Prop) (own : Nat → Nat) (m : M) (row : Row) (t : Nat) : Step T own m (upd own m.length t) (m ++ [row]) :=
 ⟨by simp, fun r hr => upd_ne _ _ (by omega), fun r hr _ => push_get hr⟩
theorem Step.push0 (T : Nat → Prop) (own : Nat → Nat) (m : M) (x : List Row) : Step T own m own (m ++ x) :=
 ⟨by simp, fun r _ => rfl, fun r hr _ => push_get hr⟩
theorem Step.wr {T : Nat → Prop} {own : Nat → Nat} {m : M} {p : Nat} (h : T (own p)) (off : Nat) (vs : List Value) : Step T own m own (mwr m p off vs) :=
 ⟨by rw [mwr_len]; exact Nat.le_refl _, fun _ _ => rfl, fun r _ ht => mwr_ne (fun e => ht (by rw [e]; exact h))⟩
theorem Step.kl {T : Nat → Prop} {own : Nat → Nat} {m : M} {p : Nat} (h : T (own p)) : Step T own m own (mkl m p) :=
 ⟨by rw [mkl_len]; exact Nat.le_refl _, fun _ _ => rfl, fun r _ ht => mkl_ne (fun e => ht (by rw [e]; exact h))⟩
theorem Step.hd {T : Nat → Prop} {o o1 : Nat → Nat} {m m1 : M} (h : Step T o m o1 m1) {r z n : Nat} {ex : Bool} (hd : Hd m r z ex n) (ht : ¬ T (o r)) : Hd m1 r z ex n := hd.congr (h.keep r hd.lt ht)
theorem Step.cell {T : Nat → Prop} {o o1 : Nat → Nat} {m m1 : M} (h : Step T o m o1 m1) {r j : Nat} {v : Value} (hc : mcell m r j = some v) (ht : ¬ T (o r)) : mcell m1 r j = some v := by
 rw [mcell_congr (h.keep r (mcell_lt hc) ht)]; exact hc
theorem Step.cs {T : Nat → Prop} {o o1 : Nat → Nat} {m m1 : M} (h : Step T o m o1 m1) {r off : Nat} {l : List Value} (hc : Cs m r off l) (ht : ¬ T (o r)) : Cs m1 r off l := fun i v hi => h.cell (hc i v hi) ht
end Go.AM
