import Derived.Carry
import Derived.Handy
import Derived.KernelRfl
import Derived.Laws.BytesArg
import Derived.Laws.StructEq
import Derived.Maps.AppendAt
import Derived.Maps.OwnOps
import Derived.Maps.RangeRun
import Derived.Maps.RangeWalk
import Derived.Test.YtcgohiiihhplgaaDoorRows
import Derived.WalkKit
import Derived.Test.YtcgohiiihhplgaaDoorAmB
import Derived.Test.YtcgohiiihhplgaaDoorAmModel
import Derived.Test.YtcgohiiihhplgaaDoorAmOps6
import Derived.Test.YtcgohiiihhplgaaDoorAmCode
import Derived.Test.YtcgohiiihhplgaaDoorAmK2
import Derived.Test.YtcgohiiihhplgaaDoorAmEq
import Derived.Test.YtcgohiiihhplgaaDoorRBase
import Derived.Test.YtcgohiiihhplgaaDoorB1
import Derived.Test.YtcgohiiihhplgaaDoorK1
import Derived.Test.YtcgohiiihhplgaaDoorR6
import Derived.Test.YtcgohiiihhplgaaDoorR41
import Derived.Test.YtcgohiiihhplgaaDoorR42
import Derived.Test.YtcgohiiihhplgaaDoorD3
import Derived.Test.YtcgohiiihhplgaaDoorK3
import Derived.Test.YtcgohiiihhplgaaDoorAmS
import Derived.Test.YtcgohiiihhplgaaDoorK4
import Derived.Test.YtcgohiiihhplgaaDoorK5
import Derived.Test.YtcgohiiihhplgaaDoorK6
import Derived.Test.YtcgohiiihhplgaaDoorS13
import Derived.Test.YtcgohiiihhplgaaDoorS14
import Derived.Test.YtcgohiiihhplgaaDoorD0
import Derived.Test.YtcgohiiihhplgaaDoorDet1
import Derived.Test.YtcgohiiihhplgaaDoorDH1
set_option linter.unusedVariables false
set_option linter.unusedSimpArgs false
set_option linter.unusedSectionVars false
namespace Go.AM
open Go Go.Proofs
theorem t65 (n base : Nat) (s : B) (m : M) : rt (n + 1) base 65 [vb s] m = some (.ret (vb (rightB s)), m) :=
  rt_pure (f := 65) (rf := rf65) (by kernel_rfl) (by kernel_rfl) (by kernel_rfl) n base _ m m _ (s65 (rt n) n m.length s m) rfl
theorem t66 (n base : Nat) (s : B) (m : M) : rt (n + 1) base 66 [vb s] m = some (.ret (vb (belowB s)), m) :=
  rt_pure (f := 66) (rf := rf66) (by kernel_rfl) (by kernel_rfl) (by kernel_rfl) n base _ m m _ (s66 (rt n) n m.length s m) rfl
theorem t87 (n base : Nat) (s : B) (m : M) : rt (n + 1) base 87 [vb s] m = some (.ret (vb (leftB s)), m) :=
  rt_pure (f := 87) (rf := rf87) (by kernel_rfl) (by kernel_rfl) (by kernel_rfl) n base _ m m _ (s87 (rt n) n m.length s m) rfl
theorem t88 (n base : Nat) (s : B) (m : M) : rt (n + 1) base 88 [vb s] m = some (.ret (vb (aboveB s)), m) :=
  rt_pure (f := 88) (rf := rf88) (by kernel_rfl) (by kernel_rfl) (by kernel_rfl) n base _ m m _ (s88 (rt n) n m.length s m) rfl
theorem t72 (n base : Nat) (s : B) (m : M) : rt (n + 1) base 72 [vb s] m = some (.ret (vb (low s)), m) :=
  rt_pure (f := 72) (rf := rf72) (by kernel_rfl) (by kernel_rfl) (by kernel_rfl) n base _ m m _ (s72 (rt n) n m.length s m) rfl
theorem t60 (n base : Nat) (s : B) (m : M) : rt (n + 2) base 60 [vb s] m = some (.ret (vb (nbB s)), m) :=
  rt_pure (f := 60) (rf := rf60) (by kernel_rfl) (by kernel_rfl) (by kernel_rfl) (n + 1) base _ m m _ (by
    show r60 (rt (n + 1)) (n + 1) m.length (vb s) m = _
    unfold r60
    rw [k1_fun, fVal_fun]
    simp only [t87, t65, t88, t66, kc, b_or, k1n]
    rfl) rfl
theorem sc_vb (s : B) (f : B → Value) : (match [vb s] with
    | [.int .u64 (.ofNat n)] => if n < 18446744073709551616 then fVal (f (BitVec.ofNat 64 n)) some else none
    | _ => none) = some (f s) := by
  show (if s.toNat < 18446744073709551616 then fVal (f (BitVec.ofNat 64 s.toNat)) some else none) = _
  rw [if_pos s.isLt, fVal_eq]
  congr 2
  apply BitVec.eq_of_toNat_eq
  rw [BitVec.toNat_ofNat]
  exact Nat.mod_eq_of_lt s.isLt
theorem t93 (n base : Nat) (s : B) (m : M) : rt (n + 1) base 93 [vb s] m = some (.ret (vi (tz s)), m) := by
  show scallN scs E.pure tab (n + 1) base 93 [vb s] m = _
  unfold scallN
  have : scall scs 93 [vb s] m = some (vi (tz s)) := sc_vb s fun s => vi (tz s)
  rw [this]
theorem t76 (n base : Nat) (s : B) (m : M) : rt (n + 2) base 76 [vb s] m = some (.ret (vi (tz s)), m) :=
  rt_pure (f := 76) (rf := rf76) (by kernel_rfl) (by kernel_rfl) (by kernel_rfl) (n + 1) base _ m m _ (by
    show r76 (rt (n + 1)) (n + 1) m.length (vb s) m = _
    unfold r76
    rw [t93]
    simp only [kc, fVal_eq]) rfl
theorem rem2 (a : Nat) : mbin E .rem 3 (vi a) (.int .i64 2) = some (vi ((a % 2 : Nat) : Int)) := by
  have e : mbin E .rem 3 (vi a) (.int .i64 2) = some (vi (Int.tmod (a : Int) 2)) := rfl
  rw [e]
  rfl
theorem t75 (n base b : Nat) (hbb : base ≤ b) (s : B) (m : M) (hb : b ≤ m.length) : ∃ v' m', rt (n + 66) base 75 [vb s] m = some (.ret v', m') ∧ Grow 1 b m' v' ((sing 64 s).map vb) (sing 64 s).length ∧ Keeps b m m' := by
  obtain ⟨v', m', h1, h2, h3⟩ := s75 (rt (n + 65)) (fun base s m => t72 (n + 64) base s m) (n + 65) base b hbb (by omega) s m hb
  exact ⟨v', m', (rt_imp (f := 75) (rf := rf75) (by kernel_rfl) (by kernel_rfl) (by kernel_rfl) (n + 65) base _ m).trans h1, h2, h3⟩
end Go.AM
namespace Go.AM
open Go Go.Proofs
open Go.AM.Det (Mx)
abbrev nilS : Value := .slice none 0 0
theorem rep_nil (z : Value) : ∀ c, repCells [z] c = List.replicate c z
  | 0 => rfl
  | c + 1 => by rw [List.replicate_succ, ← rep_nil z c]; rfl
theorem ints_zero : ∀ n, ints n (fun _ => 0) = List.replicate n (vi 0)
  | 0 => rfl
  | n + 1 => by rw [ints_succ, ints_zero n, List.replicate_succ']
/-- A slice of words, as a row of its own. -/
def words (l : List B) : Row := rowz 1 false (l.map vb)
theorem ix86 (p l c j : Nat) (h : j < l) : mindexAddr E.P 86 (.slice (some ⟨p, 0, none⟩) l c) (vi j) = some (pt p j) := by
  have e : mindexAddr E.P 86 (.slice (some ⟨p, 0, none⟩) l c) (vi j) = if 0 ≤ (j : Int) ∧ (j : Int) < l then some (.pointer (some ⟨p, 0 + ((j : Int)).toNat * 1, none⟩)) else none := by kernel_rfl
  rw [e, if_pos (by omega)]
  simp
theorem ld58 (m : M) (r off : Nat) : xload E.P m 58 (pt r off) = mcell m r off := by
  have e : xload E.P m 58 (pt r off) = xcell m r off := by kernel_rfl
  rw [e, xcell_eq]
theorem rdB {m : M} {p : Nat} {l : List B} (h : m[p]? = some (words l)) {j : Nat} (hj : j < l.length) : xload E.P m 58 (pt p j) = some (vb (l.getD j 0)) := by
  rw [ld58]
  unfold mcell
  rw [h]
  show (l.map vb)[j]? = _
  rw [List.getElem?_map, List.getElem?_eq_getElem hj]
  simp [List.getD, hj]
theorem len86 (base : Nat) (m : M) (o l c : Nat) : vcalln E.P base m .len [86] [.slice (some ⟨o, 0, none⟩) l c] = some (vi l, m) := by kernel_rfl
theorem len86n (base : Nat) (m : M) : vcalln E.P base m .len [86] [nilS] = some (vi 0, m) := by kernel_rfl
structure MadeA (b o : Nat) (m : M) (ps : List Nat) (n : Nat) (A : Mx) : Prop where
  orow : m[o]? = some (row1 true ((ps.map fun p => sl p n) ++ List.replicate (n - ps.length) nilS))
  rows : ∀ (i p : Nat), ps[i]? = some p → o < p ∧ m[p]? = some (row1 true (ints n (A i)))
  inj : ∀ (i j p : Nat), ps[i]? = some p → ps[j]? = some p → i = j
  ob : b ≤ o
/-- One number written. -/
theorem MadeA.put {b o : Nat} {m : M} {ps : List Nat} {n : Nat} {A : Mx} (h : MadeA b o m ps n A) {base i j p : Nat} (hbb : base ≤ b) (hp : ps[i]? = some p) (hj : j < n) (x : Int) :
    ∃ m', xstore E.P base m 3 (pt p j) (vi x) = some m' ∧ MadeA b o m' ps n (upd A i j x) ∧ Keeps b m m' := by
  obtain ⟨hop, hrow⟩ := h.rows i p hp
  have hob := h.ob
  have hlt := (List.getElem?_eq_some_iff.1 hrow).1
  refine ⟨m.set p (row1 true (ints n fun k => if k = j then x else A i k)), ?_, ⟨?_, fun a q hq => ?_, h.inj, h.ob⟩, Keeps.set _ _ _ _ (by omega)⟩
  · rw [st3, mwrite_one (row := row1 true (ints n (A i))) (by omega) hrow rfl (by show j < (ints n (A i)).length; rw [ints_length]; exact hj) rfl]
    show some (m.set p (row1 true ((ints n (A i)).set j (vi x)))) = _
    rw [ints_set]
  · rw [List.getElem?_set_ne (by omega)]; exact h.orow
  · obtain ⟨h1, h2⟩ := h.rows a q hq
    refine ⟨h1, ?_⟩
    by_cases hpq : p = q
    · subst hpq
      have hai : a = i := h.inj a i p hq hp
      subst hai
      rw [List.getElem?_set_self hlt]
      congr 2
      refine ints_congr fun c hc => ?_
      unfold upd
      by_cases hc2 : c = j
      · rw [if_pos hc2, if_pos ⟨rfl, hc2⟩]
      · rw [if_neg hc2, if_neg (fun e => hc2 e.2)]
    · rw [List.getElem?_set_ne hpq]
      have hai : a ≠ i := fun e => hpq (by
        subst e
        rw [hq] at hp
        exact (Option.some.inj hp).symm)
      rw [h2]
      congr 2
      refine ints_congr fun c hc => ?_
      unfold upd
      rw [if_neg (fun e => hai e.1)]
end Go.AM
namespace Go.AM
open Go Go.Proofs
/-- One search, in words: with fuel. -/
def dfs : Nat → B → B → List B → B → Option (Bool × List B × B)
  | 0, _, _, _, _ => none
  | n + 1, s, c, mate, seen =>
    if low ((nbB c &&& s) &&& ~~~seen) = 0 then some (false, mate, seen) else
    if mate.getD (tz (low ((nbB c &&& s) &&& ~~~seen))) 0 = 0 then some (true, (mate.set (tz (low ((nbB c &&& s) &&& ~~~seen))) c).set (tz c) (low ((nbB c &&& s) &&& ~~~seen)), seen ||| low ((nbB c &&& s) &&& ~~~seen)) else
    match dfs n s (mate.getD (tz (low ((nbB c &&& s) &&& ~~~seen))) 0) mate (seen ||| low ((nbB c &&& s) &&& ~~~seen)) with
    | none => none
    | some (true, m1, s1) => some (true, (m1.set (tz (low ((nbB c &&& s) &&& ~~~seen))) c).set (tz c) (low ((nbB c &&& s) &&& ~~~seen)), s1)
    | some (false, m1, s1) => dfs n s c m1 s1
theorem tz_lt {s : B} (h : s ≠ 0) : tz s < 64 := by
  obtain ⟨i, hi, h1, h2, _⟩ := low_one h
  rw [tz_of h1 h2]; exact hi
theorem dfs_len : ∀ {n : Nat} {s c : B} {mate : List B} {seen : B} {r : Bool} {m' : List B} {s' : B}, dfs n s c mate seen = some (r, m', s') → m'.length = mate.length
  | 0, s, c, mate, seen, r, m', s', h => by simp [dfs] at h
  | n + 1, s, c, mate, seen, r, m', s', h => by
    unfold dfs at h
    split at h
    · simp at h; rw [← h.2.1]
    · split at h
      · simp at h; rw [← h.2.1]; simp
      · split at h
        · simp at h
        · rename_i m1 s1 e
          simp at h
          rw [← h.2.1]
          simp [dfs_len e]
        · rename_i m1 s1 e
          rw [dfs_len h, dfs_len e]
theorem ix98 (p j : Nat) (h : j < 64) : mindexAddr E.P 98 (pt p 0) (vi j) = some (pt p j) := by
  have e : mindexAddr E.P 98 (pt p 0) (vi j) = if 0 ≤ (j : Int) ∧ (j : Int) < 64 then some (.pointer (some ⟨p, 0 + ((j : Int)).toNat * 1, none⟩)) else none := by kernel_rfl
  rw [e, if_pos (by omega)]
  simp
theorem st58 (base : Nat) (m : M) (p off : Nat) (x : B) : xstore E.P base m 58 (pt p off) (vb x) = mwrite base m p off [vb x] := by
  have e : xstore E.P base m 58 (pt p off) (vb x) = xwrite base m p off [vb x] := by kernel_rfl
  rw [e, xwrite_eq]
theorem ld63 (m : M) (r off : Nat) : xload E.P m 63 (pt r off) = mcell m r off := by
  have e : xload E.P m 63 (pt r off) = xcell m r off := by kernel_rfl
  rw [e, xcell_eq]
/-- The search's function value: with what it captures. -/
def fnS (ps pn pm pf : Nat) : Value := .func (.func 91) #[] #[pt ps 0, pt pn 0, pt pm 0, pt pf 0]
structure At91 (base ps pn pm pf : Nat) (m : M) (s : B) (mate : List B) (seen : B) : Prop where
  hs : m[ps]? = some (cellR [vb s])
  hn : m[pn]? = some (cellR [vb seen])
  hm : m[pm]? = some (cellR (mate.map vb))
  hf : m[pf]? = some (cellR [fnS ps pn pm pf])
  len : mate.length = 64
  d1 : pn ≠ ps
  d2 : pm ≠ ps
  d3 : pm ≠ pn
  d4 : pf ≠ pn
  d5 : pf ≠ pm
  b1 : base ≤ pn
  b2 : base ≤ pm
/-- Nothing but the two rows has turned. -/
def Only (pn pm : Nat) (m m' : M) : Prop := m'.length = m.length ∧ ∀ x, x ≠ pn → x ≠ pm → m'[x]? = m[x]?
theorem Only.refl (pn pm : Nat) (m : M) : Only pn pm m m := ⟨rfl, fun _ _ _ => rfl⟩
theorem Only.trans {pn pm : Nat} {a b c : M} (h : Only pn pm a b) (k : Only pn pm b c) : Only pn pm a c := ⟨k.1.trans h.1, fun x h1 h2 => (k.2 x h1 h2).trans (h.2 x h1 h2)⟩
variable {base ps pn pm pf : Nat} {m : M} {s : B} {mate : List B} {seen : B}
theorem At91.see (h : At91 base ps pn pm pf m s mate seen) (w : B) : ∃ m', xstore E.P base m 58 (pt pn 0) (vb w) = some m' ∧ At91 base ps pn pm pf m' s mate w ∧ Only pn pm m m' := by
  have hl := (List.getElem?_eq_some_iff.1 h.hn).1
  refine ⟨m.set pn (cellR [vb w]), ?_, ⟨?_, ?_, ?_, ?_, h.len, h.d1, h.d2, h.d3, h.d4, h.d5, h.b1, h.b2⟩, by simp, fun x h1 h2 => List.getElem?_set_ne (Ne.symm h1)⟩
  · rw [st58, mwrite_one h.b1 h.hn rfl (by simp [cellR]) rfl]
    rfl
  · rw [List.getElem?_set_ne h.d1]; exact h.hs
  · rw [List.getElem?_set_self hl]
  · rw [List.getElem?_set_ne (Ne.symm h.d3)]; exact h.hm
  · rw [List.getElem?_set_ne (Ne.symm h.d4)]; exact h.hf
theorem At91.put (h : At91 base ps pn pm pf m s mate seen) {k : Nat} (hk : k < 64) (x : B) : ∃ m', xstore E.P base m 58 (pt pm k) (vb x) = some m' ∧ At91 base ps pn pm pf m' s (mate.set k x) seen ∧ Only pn pm m m' := by
  have hl := (List.getElem?_eq_some_iff.1 h.hm).1
  refine ⟨m.set pm (cellR ((mate.set k x).map vb)), ?_, ⟨?_, ?_, ?_, ?_, by simp [h.len], h.d1, h.d2, h.d3, h.d4, h.d5, h.b1, h.b2⟩, by simp, fun x h1 h2 => List.getElem?_set_ne (Ne.symm h2)⟩
  · rw [st58, mwrite_one h.b2 h.hm rfl (by simp [cellR, h.len]; exact hk) rfl, List.map_set]
    rfl
  · rw [List.getElem?_set_ne h.d2]; exact h.hs
  · rw [List.getElem?_set_ne h.d3]; exact h.hn
  · rw [List.getElem?_set_self hl]
  · rw [List.getElem?_set_ne (Ne.symm h.d5)]; exact h.hf
theorem At91.ls (h : At91 base ps pn pm pf m s mate seen) : xload E.P m 58 (pt ps 0) = some (vb s) := by
  rw [ld58]; unfold mcell; rw [h.hs]; rfl
theorem At91.ln (h : At91 base ps pn pm pf m s mate seen) : xload E.P m 58 (pt pn 0) = some (vb seen) := by
  rw [ld58]; unfold mcell; rw [h.hn]; rfl
theorem At91.lf (h : At91 base ps pn pm pf m s mate seen) : xload E.P m 63 (pt pf 0) = some (fnS ps pn pm pf) := by
  rw [ld63]; unfold mcell; rw [h.hf]; rfl
theorem At91.lm (h : At91 base ps pn pm pf m s mate seen) {k : Nat} (hk : k < 64) : xload E.P m 58 (pt pm k) = some (vb (mate.getD k 0)) := by
  rw [ld58]; unfold mcell; rw [h.hm]
  show (mate.map vb)[k]? = _
  have := h.len
  rw [List.getElem?_map, List.getElem?_eq_getElem (by omega)]
  simp [List.getD, List.getElem?_eq_getElem (show k < mate.length by omega)]
theorem r91_L0_s (call : CallF) (fuel base : Nat) (kp : Value → M → Res2) (kr : Value → M → Res2) (n : Nat) (x0 x1 x2 x3 x4 : Value) (m : M) : r91_L0 call fuel base kp kr (n + 1) x0 x1 x2 x3 x4 m =
    (kc (kB m (call m.length 60 [x0] m)) (fun v10_1 m => (k1n (xload E.P m 58 x1) fun v11_2 => (k1n (mbin E .and 58 v10_1 v11_2) fun v12_3 => (k1n (xload E.P m 58 x2) fun v13_4 => (k1n (mbin E .andNot 58 v12_3 v13_4) fun v14_5 => (kc (kB m (call m.length 72 [v14_5] m)) (fun v15_6 m => (k1n (mbin E .eql 58 v15_6 (.int .u64 0)) fun v17_7 => (kb v17_7 (kr (.bool false) m) (k1n (xload E.P m 58 x2) fun v18_8 => (k1n (mbin E .or 58 v18_8 v15_6) fun v20_9 => (ks (xstore E.P base m 58 x2 v20_9) fun m => (kc (call base 76 [v15_6] m) (fun v22_10 m => (k1n (mindexAddr E.P 98 x3 v22_10) fun v23_11 => (k1n (xload E.P m 58 v23_11) fun v24_12 => (k1n (mbin E .eql 58 v24_12 (.int .u64 0)) fun v26_13 => (kb v26_13 (kc (kB m (call m.length 76 [v15_6] m)) (fun v33_14 m => (kc (kB m (call m.length 76 [x0] m)) (fun v35_15 m => (k1n (mindexAddr E.P 98 x3 v33_14) fun v38_16 => (ks (xstore E.P base m 58 v38_16 x0) fun m => (k1n (mindexAddr E.P 98 x3 v35_15) fun v39_17 => (ks (xstore E.P base m 58 v39_17 v15_6) fun m => (kr (.bool true) m)))))) (fun _ _ => none))) (fun _ _ => none)) (k1n (xload E.P m 63 x4) fun v28_18 => (kc (kv call base v28_18 [v24_12] m) (fun v30_19 m => (kb v30_19 (kc (kB m (call m.length 76 [v15_6] m)) (fun v33_20 m => (kc (kB m (call m.length 76 [x0] m)) (fun v35_21 m => (k1n (mindexAddr E.P 98 x3 v33_20) fun v38_22 => (ks (xstore E.P base m 58 v38_22 x0) fun m => (k1n (mindexAddr E.P 98 x3 v35_21) fun v39_23 => (ks (xstore E.P base m 58 v39_23 v15_6) fun m => (kr (.bool true) m)))))) (fun _ _ => none))) (fun _ _ => none)) (r91_L0 call fuel base kp kr n x0 x1 x2 x3 x4 m))) (fun v m => kp v m)))))))) (fun v m => kp v m)))))))) (fun _ _ => none))))))) (fun _ _ => none)) := by
  unfold r91_L0
  rw [k1_fun]
def Pure91 (call : CallF) : Prop := (∀ base s m, call base 60 [vb s] m = some (.ret (vb (nbB s)), m)) ∧ (∀ base s m, call base 72 [vb s] m = some (.ret (vb (low s)), m)) ∧ ∀ base s m, call base 76 [vb s] m = some (.ret (vi (tz s)), m)
theorem loop91 (kp kr : Value → M → Res2) : ∀ (d : Nat) (s c : B) (mate : List B) (seen : B) (r : Bool) (mate' : List B) (seen' : B), dfs d s c mate seen = some (r, mate', seen') → c ≠ 0 →
    ∀ (call : CallF) (fuel : Nat) (n : Nat) (m : M), d ≤ n → Pure91 call →
      (∀ d' c' mate1 seen1 r1 mate2 seen2 m1, d' < d → dfs d' s c' mate1 seen1 = some (r1, mate2, seen2) → c' ≠ 0 → At91 base ps pn pm pf m1 s mate1 seen1 →
        ∃ m2, call base 91 [vb c', pt ps 0, pt pn 0, pt pm 0, pt pf 0] m1 = some (.ret (.bool r1), m2) ∧ At91 base ps pn pm pf m2 s mate2 seen2 ∧ Only pn pm m1 m2) →
      At91 base ps pn pm pf m s mate seen →
    ∃ m', r91_L0 call fuel base kp kr n (vb c) (pt ps 0) (pt pn 0) (pt pm 0) (pt pf 0) m = kr (.bool r) m' ∧ At91 base ps pn pm pf m' s mate' seen' ∧ Only pn pm m m'
  | 0, s, c, mate, seen, r, mate', seen', hd, hc => by simp [dfs] at hd
  | d + 1, s, c, mate, seen, r, mate', seen', hd, hc => by
    intro call fuel n m hn hP hcall hA
    obtain ⟨n', rfl⟩ : ∃ n', n = n' + 1 := ⟨n - 1, by omega⟩
    obtain ⟨h60, h72, h76⟩ := hP
    unfold dfs at hd
    have e0 : (.int .u64 0 : Value) = vb 0 := rfl
    rw [r91_L0_s]
    rw [h60, kB_same]
    simp only [kc]
    rw [hA.ls]
    simp only [k1n, b_and]
    rw [hA.ln]
    simp only [b_sub]
    rw [h72, kB_same]
    simp only [e0, b_eq]
    generalize hw : low ((nbB c &&& s) &&& ~~~seen) = w at hd
    by_cases hw0 : w = 0
    · rw [if_pos hw0] at hd
      simp only [Option.some.injEq, Prod.mk.injEq] at hd
      obtain ⟨rfl, rfl, rfl⟩ := hd
      rw [decide_eq_true hw0]
      exact ⟨m, rfl, hA, Only.refl _ _ _⟩
    · rw [if_neg hw0] at hd
      rw [decide_eq_false hw0]
      simp only [kb]
      rw [hA.ln]
      simp only [b_or]
      obtain ⟨m1, e1, hA1, ho1⟩ := hA.see (seen ||| w)
      rw [e1]
      simp only [ks, h76]
      have hwl := tz_lt hw0
      rw [ix98 pm (tz w) hwl]
      simp only
      rw [hA1.lm hwl]
      simp only [b_eq]
      have hput : ∀ (mt : List B) (sn : B) (m2 : M), At91 base ps pn pm pf m2 s mt sn → ∃ m', (ks (xstore E.P base m2 58 (pt pm (tz w)) (vb c)) fun m => k1n (mindexAddr E.P 98 (pt pm 0) (vi (tz c))) fun v39 => ks (xstore E.P base m 58 v39 (vb w)) fun m => kr (.bool true) m) = kr (.bool true) m' ∧ At91 base ps pn pm pf m' s ((mt.set (tz w) c).set (tz c) w) sn ∧ Only pn pm m2 m' := by
        intro mt sn m2 h2
        obtain ⟨m3, e3, h3, o3⟩ := h2.put hwl c
        obtain ⟨m4, e4, h4, o4⟩ := h3.put (tz_lt hc) w
        refine ⟨m4, ?_, h4, o3.trans o4⟩
        rw [e3]
        simp only [ks]
        rw [ix98 pm (tz c) (tz_lt hc)]
        simp only [k1n]
        rw [e4]
      by_cases hr0 : mate.getD (tz w) 0 = 0
      · rw [if_pos hr0] at hd
        simp only [Option.some.injEq, Prod.mk.injEq] at hd
        obtain ⟨rfl, rfl, rfl⟩ := hd
        rw [decide_eq_true hr0]
        simp only [k0, mpick, h76, kB_same]
        obtain ⟨m', q1, q2, q3⟩ := hput mate (seen ||| w) m1 hA1
        refine ⟨m', ?_, q2, ho1.trans q3⟩
        rw [ix98 pm (tz w) hwl]
        simp only [ks, k1n] at q1
        exact q1
      · rw [if_neg hr0] at hd
        rw [decide_eq_false hr0]
        simp only
        rw [hA1.lf]
        simp only
        have hkv : ∀ m, kv call base (fnS ps pn pm pf) [vb (mate.getD (tz w) 0)] m = call base 91 [vb (mate.getD (tz w) 0), pt ps 0, pt pn 0, pt pm 0, pt pf 0] m := fun m => rfl
        rw [hkv]
        split at hd
        · simp at hd
        · rename_i mt sn e2
          simp only [Option.some.injEq, Prod.mk.injEq] at hd
          obtain ⟨rfl, rfl, rfl⟩ := hd
          obtain ⟨m2, q1, q2, q3⟩ := hcall d _ _ _ _ _ _ m1 (by omega) e2 hr0 hA1
          rw [q1]
          simp only [k0, mpick, h76, kB_same]
          obtain ⟨m', r1, r2, r3⟩ := hput mt sn m2 q2
          refine ⟨m', ?_, r2, (ho1.trans q3).trans r3⟩
          rw [ix98 pm (tz w) hwl]
          simp only [ks, k1n] at r1
          exact r1
        · rename_i mt sn e2
          obtain ⟨m2, q1, q2, q3⟩ := hcall d _ _ _ _ _ _ m1 (by omega) e2 hr0 hA1
          rw [q1]
          simp only [k0, mpick]
          obtain ⟨m', r1, r2, r3⟩ := loop91 kp kr d s c mt sn r mate' seen' hd hc call fuel n' m2 (by omega) ⟨h60, h72, h76⟩ (fun d' c' a1 a2 a3 a4 a5 a6 a7 => hcall d' c' a1 a2 a3 a4 a5 a6 (by omega)) q2
          exact ⟨m', r1, r2, (ho1.trans q3).trans r3⟩
end Go.AM
namespace Go.AM
open Go Go.Proofs
theorem pure91 (n : Nat) : Pure91 (rt (n + 2)) := ⟨fun base s m => t60 n base s m, fun base s m => t72 (n + 1) base s m, fun base s m => t76 n base s m⟩
theorem t91 {base ps pn pm pf : Nat} : ∀ (d : Nat) {s c : B} {mate : List B} {seen : B} {r : Bool} {mate' : List B} {seen' : B} {m : M} (k : Nat), d + 2 ≤ k → dfs d s c mate seen = some (r, mate', seen') → c ≠ 0 → At91 base ps pn pm pf m s mate seen →
    ∃ m', rt (k + 1) base 91 [vb c, pt ps 0, pt pn 0, pt pm 0, pt pf 0] m = some (.ret (.bool r), m') ∧ At91 base ps pn pm pf m' s mate' seen' ∧ Only pn pm m m' := by
  intro d
  induction d using Nat.strongRecOn with
  | ind d ih =>
    intro s c mate seen r mate' seen' m k hk hd hc hA
    obtain ⟨k', rfl⟩ : ∃ k', k = k' + 2 := ⟨k - 2, by omega⟩
    obtain ⟨m', q1, q2, q3⟩ := loop91 (base := base) (ps := ps) (pn := pn) (pm := pm) (pf := pf) (fun v m => some (.pan v, m)) (fun y6_26 m => (fVal y6_26 fun v => some (.ret v, m))) d s c mate seen r mate' seen' hd hc (rt (k' + 2)) (k' + 2) (k' + 2) m (by omega) (pure91 k')
      (fun d' c' a1 a2 a3 a4 a5 a6 hlt hd' hc' hA' => ih d' hlt (k' + 1) (by omega) hd' hc' hA') hA
    refine ⟨m', ?_, q2, q3⟩
    refine (rt_imp (f := 91) (rf := rf91) (by kernel_rfl) (by kernel_rfl) (by kernel_rfl) (k' + 2) base _ m).trans ?_
    show r91 (rt (k' + 2)) (k' + 2) base (vb c) (pt ps 0) (pt pn 0) (pt pm 0) (pt pf 0) m = _
    unfold r91
    rw [q1, fVal_eq]
/-- How many cells are not in a set. -/
def unc (s : B) : Nat := ((List.range 64).filter fun i => !s.getLsbD i).length
theorem unc_le (s : B) : unc s ≤ 64 := by
  unfold unc
  have := List.length_filter_le (fun i => !s.getLsbD i) (List.range 64)
  simpa using this
theorem filter_sub (p q : Nat → Bool) (hpq : ∀ x, p x = true → q x = true) : ∀ l : List Nat, (l.filter p).length ≤ (l.filter q).length
  | [] => Nat.le_refl _
  | x :: l => by
    have ih := filter_sub p q hpq l
    cases hp : p x with
    | true => simp [hp, hpq x hp]; exact ih
    | false => cases hq : q x <;> simp [hp, hq] <;> omega
theorem filter_lt' (p q : Nat → Bool) (hpq : ∀ x, p x = true → q x = true) (e : Nat) (hp : p e = false) (hq : q e = true) : ∀ l : List Nat, e ∈ l → (l.filter p).length < (l.filter q).length
  | x :: l, h => by
    have hs := filter_sub p q hpq l
    rcases List.mem_cons.1 h with rfl | h
    · simp [hp, hq]; omega
    · have ih := filter_lt' p q hpq e hp hq l h
      cases h1 : p x with
      | true => simp [h1, hpq x h1]; exact ih
      | false => cases h2 : q x <;> simp [h1, h2] <;> omega
theorem unc_mono {a b : B} (h : Sub a b) : unc b ≤ unc a := by
  refine filter_sub _ _ (fun x hx => ?_) _
  cases e : a.getLsbD x with
  | false => rfl
  | true => rw [h x e] at hx; simp at hx
theorem unc_lt {a b : B} (h : Sub a b) {i : Nat} (hi : i < 64) (h1 : a.getLsbD i = false) (h2 : b.getLsbD i = true) : unc b < unc a := by
  refine filter_lt' _ _ (fun x hx => ?_) i (by rw [h2]; rfl) (by rw [h1]; rfl) _ (List.mem_range.2 hi)
  cases e : a.getLsbD x with
  | false => rfl
  | true => rw [h x e] at hx; simp at hx
theorem Sub.or_left (a b : B) : Sub a (a ||| b) := fun i h => by rw [or_get, h]; rfl
theorem unc_see {x seen : B} (h : low (x &&& ~~~seen) ≠ 0) : unc (seen ||| low (x &&& ~~~seen)) < unc seen := by
  have h0 : x &&& ~~~seen ≠ 0 := fun e => h (by rw [e]; exact low_zero)
  obtain ⟨i, hi, h1, _, e⟩ := low_one h0
  rw [sub_get, Bool.and_eq_true] at h1
  refine unc_lt (Sub.or_left _ _) hi (by simpa using h1.2) ?_
  rw [or_get, e, one_get _ _ hi]
  simp
theorem dfs_total : ∀ (n : Nat) (s c : B) (mate : List B) (seen : B), unc seen < n → ∃ r m' s', dfs n s c mate seen = some (r, m', s') ∧ Sub seen s'
  | 0, s, c, mate, seen, h => by omega
  | n + 1, s, c, mate, seen, h => by
    unfold dfs
    generalize hw : low ((nbB c &&& s) &&& ~~~seen) = w
    by_cases hw0 : w = 0
    · rw [if_pos hw0]; exact ⟨_, _, _, rfl, fun i h => h⟩
    · rw [if_neg hw0]
      have hlt : unc (seen ||| w) < unc seen := by rw [← hw]; exact unc_see (by rw [hw]; exact hw0)
      by_cases hr : mate.getD (tz w) 0 = 0
      · rw [if_pos hr]; exact ⟨_, _, _, rfl, Sub.or_left _ _⟩
      · rw [if_neg hr]
        obtain ⟨r, m1, s1, e1, h1⟩ := dfs_total n s (mate.getD (tz w) 0) mate (seen ||| w) (by omega)
        have hs : Sub seen s1 := fun i hi => h1 i (Sub.or_left _ _ i hi)
        rw [e1]
        cases r with
        | true => exact ⟨_, _, _, rfl, hs⟩
        | false =>
          obtain ⟨r2, m2, s2, e2, h2⟩ := dfs_total n s c m1 s1 (by have := unc_mono h1; omega)
          exact ⟨r2, m2, s2, e2, fun i hi => h2 i (hs i hi)⟩
/-- Search after search. -/
def pairL (s : B) : List B → List B → List B
  | [], mate => mate
  | c :: cs, mate => match dfs 65 s c mate 0 with
    | some (_, m', _) => pairL s cs m'
    | none => mate
def pairB (s : B) : List B := pairL s (sing 64 (s &&& blackB)) (List.replicate 64 0)
theorem dfs65 (s c : B) (mate : List B) : ∃ r m' s', dfs 65 s c mate 0 = some (r, m', s') := by
  obtain ⟨r, m', s', h, _⟩ := dfs_total 65 s c mate 0 (by have := unc_le 0; omega)
  exact ⟨r, m', s', h⟩
theorem pairL_len (s : B) : ∀ (cs mate : List B), (pairL s cs mate).length = mate.length
  | [], mate => rfl
  | c :: cs, mate => by
    obtain ⟨r, m', s', h⟩ := dfs65 s c mate
    unfold pairL
    rw [h]
    simp only
    rw [pairL_len s cs m', dfs_len h]
theorem r71_L0_s (call : CallF) (fuel base : Nat) (kp : Value → M → Res2) (kx0 : Value → Value → M → Res2) (n : Nat) (x2 x3 x4 x5 x11 x12 x13 : Value) (m : M) : r71_L0 call fuel base kp kx0 (n + 1) x2 x3 x4 x5 x11 x12 x13 m =
    (k1n (mbin E .lss 3 x13 x12) fun v14_10 => (kb v14_10 (k1n (mindexAddr E.P 86 x11 x13) fun v15_11 => (k1n (xload E.P m 58 v15_11) fun v16_12 => (ks (xstore E.P base m 58 x4 (.int .u64 0)) fun m => (k1n (xload E.P m 63 x5) fun v17_13 => (kc (kv call base v17_13 [v16_12] m) (fun v19_14 m => (k1n (mbin E .add 3 x13 (.int .i64 1)) fun v20_15 => (r71_L0 call fuel base kp kx0 n x2 x3 x4 x5 x11 x12 v20_15 m))) (fun v m => kp v m)))))) (kx0 x2 x3 m))) := by
  unfold r71_L0
  rw [k1_fun]
theorem r70_L0_s (call : CallF) (fuel base : Nat) (kp : Value → M → Res2) (kx0 : Value → M → Res2) (n : Nat) (x3 x5 x9 x10 x11 : Value) (m : M) : r70_L0 call fuel base kp kx0 (n + 1) x3 x5 x9 x10 x11 m =
    (k1n (mbin E .lss 3 x11 x10) fun v12_4 => (kb v12_4 (k1n (mindexAddr E.P 86 x9 x11) fun v13_5 => (k1n (xload E.P m 58 v13_5) fun v14_6 => (kc (call base 76 [v14_6] m) (fun v16_7 m => (k1n (mindexAddr E.P 98 x3 v16_7) fun v17_8 => (k1n (xload E.P m 58 v17_8) fun v18_9 => (k1n (mbin E .eql 58 v18_9 (.int .u64 0)) fun v19_10 => (kb v19_10 (k1n (mbin E .or 58 x5 v14_6) fun v22_11 => (k1n (mbin E .add 3 x11 (.int .i64 1)) fun v23_12 => (r70_L0 call fuel base kp kx0 n x3 v22_11 x9 x10 v23_12 m))) (k1n (mbin E .add 3 x11 (.int .i64 1)) fun v23_13 => (r70_L0 call fuel base kp kx0 n x3 x5 x9 x10 v23_13 m))))))) (fun v m => kp v m)))) (kx0 x5 m))) := by
  unfold r70_L0
  rw [k1_fun]
theorem sing_nz : ∀ (d : Nat) (s : B), ∀ x ∈ sing d s, x ≠ 0
  | 0, s, x, h => by simp [sing] at h
  | d + 1, s, x, h => by
    unfold sing at h
    split at h
    · simp at h
    · rename_i h0
      rcases List.mem_cons.1 h with rfl | h
      · obtain ⟨l, hl, _, _, e⟩ := low_one h0
        rw [e]; exact one_ne l hl
      · exact sing_nz d _ x h
theorem loop71 {base ps pn pm pf : Nat} (k : Nat) (hk : 70 ≤ k) (kp : Value → M → Res2) (kx : Value → Value → M → Res2) (x2 : Value) {s : B} {rb N : Nat} {X : List B} (hX : X.length = N) (hN : N ≤ 64) (hnz : ∀ x ∈ X, x ≠ 0) (hrb : rb ≠ pn ∧ rb ≠ pm) : ∀ (n j : Nat) (m : M) (mate : List B) (seen : B), j ≤ N → N < n + j → m[rb]? = some (words X) → At91 base ps pn pm pf m s mate seen →
    ∃ m' seen', r71_L0 (rt (k + 1)) (k + 1) base kp kx n x2 (pt pm 0) (pt pn 0) (pt pf 0) (sl rb N) (vi N) (vi j) m = kx x2 (pt pm 0) m' ∧ At91 base ps pn pm pf m' s (pairL s (X.drop j) mate) seen' ∧ Only pn pm m m'
  | 0, j, m, mate, seen, hj, hn, _, _ => by omega
  | n + 1, j, m, mate, seen, hj, hn, hb, hA => by
    rw [r71_L0_s]
    simp only [lss_nat, k1n]
    by_cases hlt : j < N
    · rw [decide_eq_true hlt]
      simp only [kb]
      rw [ix86 rb N N j hlt]
      simp only
      rw [rdB hb (by omega)]
      simp only
      obtain ⟨m1, e1, hA1, o1⟩ := hA.see 0
      rw [show (.int .u64 0 : Value) = vb 0 from rfl, e1]
      simp only [ks]
      rw [hA1.lf]
      simp only
      have hXj : X.drop j = X.getD j 0 :: X.drop (j + 1) := by
        rw [List.drop_eq_getElem_cons (by omega)]
        simp [List.getD, List.getElem?_eq_getElem (show j < X.length by omega)]
      have hcz : X.getD j 0 ≠ 0 := by
        refine hnz _ ?_
        simp [List.getD, List.getElem?_eq_getElem (show j < X.length by omega)]
      obtain ⟨r, mt, sn, hd⟩ := dfs65 s (X.getD j 0) mate
      obtain ⟨m2, q1, q2, q3⟩ := t91 (base := base) 65 k (by omega) hd hcz hA1
      have hkv : kv (rt (k + 1)) base (fnS ps pn pm pf) [vb (X.getD j 0)] m1 = rt (k + 1) base 91 [vb (X.getD j 0), pt ps 0, pt pn 0, pt pm 0, pt pf 0] m1 := rfl
      rw [hkv, q1]
      simp only [kc]
      rw [add1 j (by omega)]
      simp only
      have o2 := o1.trans q3
      obtain ⟨m3, sn3, r1, r2, r3⟩ := loop71 k hk kp kx x2 hX hN hnz hrb n (j + 1) m2 mt sn (by omega) (by omega) ((o2.2 rb hrb.1 hrb.2).trans hb) q2
      refine ⟨m3, sn3, r1, ?_, o2.trans r3⟩
      rw [hXj]
      unfold pairL
      rw [hd]
      exact r2
    · rw [decide_eq_false hlt]
      refine ⟨m, seen, rfl, ?_, Only.refl _ _ _⟩
      rw [List.drop_eq_nil_of_le (by omega)]
      exact hA
end Go.AM
namespace Go.AM
open Go Go.Proofs
theorem box58 (m : M) (s : B) : xbox m (vb s) = some (pt m.length 0, m ++ [cellR [vb s]]) := by
  have : xbox m (vb s) = xlen m fun n => xpush m (cellR [vb s]) fun m' => some (pt n 0, m') := by kernel_rfl
  rw [this, xlen_eq, fNat_eq, xpush_eq, fList_eq]
theorem al98 (m : M) : xalloc E.P m 98 = some (pt m.length 0, m ++ [cellR ((List.replicate 64 (0 : B)).map vb)]) := by
  have : xalloc E.P m 98 = xlen m fun n => xpush m (cellR ((List.replicate 64 (0 : B)).map vb)) fun m' => some (pt n 0, m') := by kernel_rfl
  rw [this, xlen_eq, fNat_eq, xpush_eq, fList_eq]
theorem al58 (m : M) : xalloc E.P m 58 = some (pt m.length 0, m ++ [cellR [vb 0]]) := by
  have : xalloc E.P m 58 = xlen m fun n => xpush m (cellR [vb 0]) fun m' => some (pt n 0, m') := by kernel_rfl
  rw [this, xlen_eq, fNat_eq, xpush_eq, fList_eq]
theorem al63 (m : M) : xalloc E.P m 63 = some (pt m.length 0, m ++ [cellR [.nilFunc]]) := by
  have : xalloc E.P m 63 = xlen m fun n => xpush m (cellR [.nilFunc]) fun m' => some (pt n 0, m') := by kernel_rfl
  rw [this, xlen_eq, fNat_eq, xpush_eq, fList_eq]
theorem st63 (base : Nat) (m : M) (p a b c d : Nat) : xstore E.P base m 63 (pt p 0) (.func (.func 91) #[] #[pt a 0, pt b 0, pt c 0, pt d 0]) = mwrite base m p 0 [fnS a b c d] := by
  have e : xstore E.P base m 63 (pt p 0) (.func (.func 91) #[] #[pt a 0, pt b 0, pt c 0, pt d 0]) = xwrite base m p 0 [fnS a b c d] := by kernel_rfl
  rw [e, xwrite_eq]
theorem ld98 {m : M} {p : Nat} {cs : List Value} (h : m[p]? = some (cellR cs)) (hl : cs.length = 64) : xload E.P m 98 (pt p 0) = some (.agg cs.toArray) := by
  have e : xload E.P m 98 (pt p 0) = (xread m p 0 64).map fun cs => .agg cs.toArray := by kernel_rfl
  rw [e, xread_eq]
  unfold mread
  rw [h]
  show Option.map _ (if 0 + 64 ≤ (cellR cs).cells.length then _ else none) = _
  rw [if_pos (show 0 + 64 ≤ (cellR cs).cells.length by show 0 + 64 ≤ cs.length; omega), List.drop_zero]
  show some (Value.agg (List.take 64 cs).toArray) = _
  rw [List.take_of_length_le (by omega)]
theorem st98 {base : Nat} {m : M} {p : Nat} {cs ds : List Value} (h : m[p]? = some (cellR ds)) (hb : base ≤ p) (hl : cs.length = 64) (hd : ds.length = 64) (ho : cs.all (·.oneCell') = true) : xstore E.P base m 98 (pt p 0) (.agg cs.toArray) = some (m.set p (cellR cs)) := by
  have e : xstore E.P base m 98 (pt p 0) (.agg cs.toArray) = if cs.toArray.size = 64 then xwrite base m p 0 cs.toArray.toList else none := by kernel_rfl
  rw [e, if_pos (by simpa using hl), xwrite_eq]
  unfold mwrite
  rw [if_neg (by omega), h, List.toList_toArray]
  have hle : 0 + cs.length ≤ (cellR ds).cells.length := by show 0 + cs.length ≤ ds.length; omega
  have hsp : splice (cellR ds).cells 0 cs = cs := by
    unfold splice
    show List.take 0 ds ++ cs ++ List.drop (0 + cs.length) ds = cs
    rw [List.take_zero, List.nil_append, List.drop_eq_nil_of_le (by omega), List.append_nil]
  show (if (cellR ds).ro = true then none else if 0 + cs.length ≤ (cellR ds).cells.length then _ else none) = _
  rw [if_neg (by simp [cellR]), if_pos hle, if_pos ho, hsp, fList_eq, fList_eq]
  rfl
theorem vbs_one (l : List B) : (l.map vb).all (·.oneCell') = true := by
  rw [List.all_eq_true]
  intro v hv
  obtain ⟨x, _, rfl⟩ := List.mem_map.1 hv
  rfl
theorem vflat_vbs (l : List B) : vflat (.agg (l.map vb).toArray) = true := by
  show ((l.map vb).toArray.toList.all vsimple) = true
  rw [List.toList_toArray, List.all_eq_true]
  intro v hv
  obtain ⟨x, _, rfl⟩ := List.mem_map.1 hv
  rfl
set_option maxRecDepth 20000 in
theorem t71 (n base : Nat) (s : B) (m0 : M) : rt (n + 73) base 71 [vb s] m0 = some (.ret (.agg ((pairB s).map vb).toArray), m0) := by
  suffices h : ∃ m1, r71 (rt (n + 72)) (n + 72) m0.length (vb s) m0 = some (.ret (.agg ((pairB s).map vb).toArray), m1) by
    obtain ⟨m1, h⟩ := h
    exact rt_pure (f := 71) (rf := rf71) (by kernel_rfl) (by kernel_rfl) (by kernel_rfl) (n + 72) base _ m0 m1 _ h (vflat_vbs _)
  generalize hL : m0.length = L
  unfold r71
  rw [k1_fun, vcall_fun, fVal_fun, box58]
  simp only [k2]
  rw [al98]
  simp only
  rw [al98]
  simp only
  rw [al58]
  simp only
  rw [al63]
  simp only
  rw [st63]
  have l1 : (m0 ++ [cellR [vb s]]).length = L + 1 := by simp [hL]
  have l2 : (m0 ++ [cellR [vb s]] ++ [cellR ((List.replicate 64 (0 : B)).map vb)]).length = L + 2 := by simp [hL]
  have l3 : (m0 ++ [cellR [vb s]] ++ [cellR ((List.replicate 64 (0 : B)).map vb)] ++ [cellR ((List.replicate 64 (0 : B)).map vb)]).length = L + 3 := by simp [hL]
  have l4 : (m0 ++ [cellR [vb s]] ++ [cellR ((List.replicate 64 (0 : B)).map vb)] ++ [cellR ((List.replicate 64 (0 : B)).map vb)] ++ [cellR [vb 0]]).length = L + 4 := by simp [hL]
  rw [l1, l2, l3, l4, hL]
  generalize hZ : cellR ((List.replicate 64 (0 : B)).map vb) = Z
  rw [hZ] at l2 l3 l4
  have g4 : (m0 ++ [cellR [vb s]] ++ [Z] ++ [Z] ++ [cellR [vb 0]] ++ [cellR [.nilFunc]])[L + 4]? = some (cellR [.nilFunc]) := by
    rw [List.getElem?_append_right (by omega), l4]; simp
  rw [mwrite_one (by omega) g4 rfl (by simp [cellR]) rfl]
  have eset : (m0 ++ [cellR [vb s]] ++ [Z] ++ [Z] ++ [cellR [vb 0]] ++ [cellR [.nilFunc]]).set (L + 4) { cellR [.nilFunc] with cells := (cellR [.nilFunc]).cells.set 0 (fnS L (L + 3) (L + 2) (L + 4)) } = m0 ++ [cellR [vb s]] ++ [Z] ++ [Z] ++ [cellR [vb 0]] ++ [cellR [fnS L (L + 3) (L + 2) (L + 4)]] := by
    rw [List.set_append_right _ _ (by omega), l4]
    simp [cellR]
  rw [eset]
  simp only [ks]
  have q0 : (m0 ++ [cellR [vb s]] ++ [Z] ++ [Z] ++ [cellR [vb 0]] ++ [cellR [fnS L (L + 3) (L + 2) (L + 4)]])[L]? = some (cellR [vb s]) := by
    rw [List.getElem?_append_left (by omega), List.getElem?_append_left (by omega), List.getElem?_append_left (by omega), List.getElem?_append_left (by omega), List.getElem?_append_right (by omega), hL]; simp
  have q1 : (m0 ++ [cellR [vb s]] ++ [Z] ++ [Z] ++ [cellR [vb 0]] ++ [cellR [fnS L (L + 3) (L + 2) (L + 4)]])[L + 1]? = some Z := by
    rw [List.getElem?_append_left (by omega), List.getElem?_append_left (by omega), List.getElem?_append_left (by omega), List.getElem?_append_right (by omega), l1]; simp
  have q2 : (m0 ++ [cellR [vb s]] ++ [Z] ++ [Z] ++ [cellR [vb 0]] ++ [cellR [fnS L (L + 3) (L + 2) (L + 4)]])[L + 2]? = some Z := by
    rw [List.getElem?_append_left (by omega), List.getElem?_append_left (by omega), List.getElem?_append_right (by omega), l2]; simp
  have q3 : (m0 ++ [cellR [vb s]] ++ [Z] ++ [Z] ++ [cellR [vb 0]] ++ [cellR [fnS L (L + 3) (L + 2) (L + 4)]])[L + 3]? = some (cellR [vb 0]) := by
    rw [List.getElem?_append_left (by omega), List.getElem?_append_right (by omega), l3]; simp
  have q4 : (m0 ++ [cellR [vb s]] ++ [Z] ++ [Z] ++ [cellR [vb 0]] ++ [cellR [fnS L (L + 3) (L + 2) (L + 4)]])[L + 4]? = some (cellR [fnS L (L + 3) (L + 2) (L + 4)]) := by
    rw [List.getElem?_append_right (by omega), l4]; simp
  have hlen : (m0 ++ [cellR [vb s]] ++ [Z] ++ [Z] ++ [cellR [vb 0]] ++ [cellR [fnS L (L + 3) (L + 2) (L + 4)]]).length = L + 5 := by rw [List.length_append, l4]; rfl
  generalize m0 ++ [cellR [vb s]] ++ [Z] ++ [Z] ++ [cellR [vb 0]] ++ [cellR [fnS L (L + 3) (L + 2) (L + 4)]] = m1 at q0 q1 q2 q3 q4 hlen
  have e58 : xload E.P m1 58 (pt L 0) = some (vb s) := by
    rw [ld58]; unfold mcell; rw [q0]; rfl
  rw [e58]
  have eb : (.int .u64 12273903644374837845 : Value) = vb blackB := rfl
  simp only [k1n, eb, b_and]
  obtain ⟨v, m2, e2, g2, k2'⟩ := t75 (n + 6) L m1.length (by omega) (s &&& blackB) m1 (Nat.le_refl _)
  rw [show n + 6 + 66 = n + 72 by omega] at e2
  rw [e2]
  simp only [kc]
  have hA : At91 L L (L + 3) (L + 2) (L + 4) m2 s (List.replicate 64 0) 0 :=
    ⟨(k2'.2 _ (by omega)).trans q0, (k2'.2 _ (by omega)).trans q3, ((k2'.2 _ (by omega)).trans q2).trans (by rw [← hZ]), (k2'.2 _ (by omega)).trans q4, by simp, by omega, by omega, by omega, by omega, by omega, by omega, by omega⟩
  have q1' : m2[L + 1]? = some Z := (k2'.2 _ (by omega)).trans q1
  unfold pairB
  have hx64 := sing_len 64 (s &&& blackB)
  have hnz := sing_nz 64 (s &&& blackB)
  generalize sing 64 (s &&& blackB) = X at g2 hx64 hnz ⊢
  have hend : ∀ (m3 : M) (mate : List B) (seen : B), At91 L L (L + 3) (L + 2) (L + 4) m3 s mate seen → Only (L + 3) (L + 2) m2 m3 → ∃ m4, (k1n (xload E.P m3 98 (pt (L + 2) 0)) fun v21 => ks (xstore E.P L m3 98 (pt (L + 1) 0) v21) fun m => k0 (mload E.P m 98 (pt (L + 1) 0)) fun r => some (Ret.ret r, m)) = some (.ret (.agg (mate.map vb).toArray), m4) := by
    intro m3 mate seen hA3 ho
    rw [ld98 hA3.hm (by simp [hA3.len])]
    simp only [k1n]
    have hq : m3[L + 1]? = some (cellR ((List.replicate 64 (0 : B)).map vb)) := by rw [ho.2 _ (by omega) (by omega), q1', hZ]
    have hlt := (List.getElem?_eq_some_iff.1 hq).1
    rw [st98 hq (by omega) (by simp [hA3.len]) (by simp) (vbs_one _)]
    simp only [ks]
    have e5 : mload E.P (m3.set (L + 1) (cellR (mate.map vb))) 98 (pt (L + 1) 0) = some (.agg (mate.map vb).toArray) := by
      rw [← xload_eq]
      exact ld98 (List.getElem?_set_self hlt) (by simp [hA3.len])
    rw [e5]
    exact ⟨_, rfl⟩
  rcases g2 with ⟨h1, rfl, _⟩ | ⟨rb, h1, hr1, rfl, hrow, _⟩
  · have hX : X = [] := List.eq_nil_of_length_eq_zero h1
    subst hX
    rw [len86n]
    simp only
    rw [show n + 72 = (n + 71) + 1 by omega, r71_L0_s]
    obtain ⟨m4, q⟩ := hend m2 _ _ hA (Only.refl _ _ _)
    exact ⟨m4, q⟩
  · rw [len86]
    simp only
    rw [show (.int .i64 0 : Value) = vi ((0 : Nat) : Int) from rfl]
    obtain ⟨m3, sn, r1, r2, r3⟩ := loop71 (base := L) (ps := L) (pn := L + 3) (pm := L + 2) (pf := L + 4) (n + 71) (by omega) (fun v m => some (.pan v, m)) (fun y2_16 y3_17 m => (k1n (xload E.P m 98 y3_17) fun v21_18 => (ks (xstore E.P L m 98 y2_16 v21_18) fun m => (k0 (mload E.P m 98 y2_16) fun r_19 => some (Ret.ret r_19, m))))) (pt (L + 1) 0) (X := X) rfl hx64 hnz (by omega) (n + 72) 0 m2 (List.replicate 64 0) 0 (by omega) (by omega) hrow hA
    obtain ⟨m4, q⟩ := hend m3 _ _ r2 r3
    refine ⟨m4, ?_⟩
    simp only [k1n, ks] at r1 q
    rw [show n + 71 + 1 = n + 72 by omega] at r1
    rw [r1]
    exact q
end Go.AM
namespace Go.AM
open Go Go.Proofs
def aloneL (mate : List B) : List B → B → B
  | [], lone => lone
  | c :: cs, lone => aloneL mate cs (if mate.getD (tz c) 0 = 0 then lone ||| c else lone)
def aloneB (s : B) (mate : List B) : B := aloneL mate (sing 64 s) 0
theorem boxAgg (m : M) (cs : List Value) : xbox m (.agg cs.toArray) = some (pt m.length 0, m ++ [cellR cs]) := by
  have : xbox m (.agg cs.toArray) = xlen m fun n => fList cs.toArray.toList fun cs => xpush m (cellR cs) fun m' => some (pt n 0, m') := by kernel_rfl
  rw [this, xlen_eq, fNat_eq, fList_eq, xpush_eq, fList_eq, List.toList_toArray]
theorem rdM {m : M} {p : Nat} {mate : List B} (h : m[p]? = some (cellR (mate.map vb))) (hl : mate.length = 64) {k : Nat} (hk : k < 64) : xload E.P m 58 (pt p k) = some (vb (mate.getD k 0)) := by
  rw [ld58]; unfold mcell; rw [h]
  show (mate.map vb)[k]? = _
  rw [List.getElem?_map, List.getElem?_eq_getElem (by omega)]
  simp [List.getD, List.getElem?_eq_getElem (show k < mate.length by omega)]
theorem loop70 (call : CallF) (h76 : ∀ base s m, call base 76 [vb s] m = some (.ret (vi (tz s)), m)) (fuel base : Nat) (kp : Value → M → Res2) (kx : Value → M → Res2) {m : M} {p rb N : Nat} {X mate : List B} (hX : X.length = N) (hN : N ≤ 64) (hnz : ∀ x ∈ X, x ≠ 0) (hb : m[rb]? = some (words X)) (hm : m[p]? = some (cellR (mate.map vb))) (hl : mate.length = 64) :
    ∀ (n j : Nat) (lone : B), j ≤ N → N < n + j → r70_L0 call fuel base kp kx n (pt p 0) (vb lone) (sl rb N) (vi N) (vi j) m = kx (vb (aloneL mate (X.drop j) lone)) m
  | 0, j, lone, hj, hn => by omega
  | n + 1, j, lone, hj, hn => by
    rw [r70_L0_s]
    simp only [lss_nat, k1n]
    by_cases hlt : j < N
    · rw [decide_eq_true hlt]
      simp only [kb]
      rw [ix86 rb N N j hlt]
      simp only
      rw [rdB hb (by omega)]
      simp only
      have hXj : X.drop j = X.getD j 0 :: X.drop (j + 1) := by
        rw [List.drop_eq_getElem_cons (by omega)]
        simp [List.getD, List.getElem?_eq_getElem (show j < X.length by omega)]
      have hcz : X.getD j 0 ≠ 0 := by
        refine hnz _ ?_
        simp [List.getD, List.getElem?_eq_getElem (show j < X.length by omega)]
      rw [h76]
      simp only [kc]
      rw [ix98 p _ (tz_lt hcz)]
      simp only
      rw [rdM hm hl (tz_lt hcz), show (.int .u64 0 : Value) = vb 0 from rfl]
      simp only [b_eq]
      rw [hXj]
      unfold aloneL
      by_cases h0 : mate.getD (tz (X.getD j 0)) 0 = 0
      · rw [decide_eq_true h0, if_pos h0]
        simp only [b_or]
        rw [add1 j (by omega)]
        simp only
        exact loop70 call h76 fuel base kp kx hX hN hnz hb hm hl n (j + 1) _ (by omega) (by omega)
      · rw [decide_eq_false h0, if_neg h0]
        simp only
        rw [add1 j (by omega)]
        simp only
        exact loop70 call h76 fuel base kp kx hX hN hnz hb hm hl n (j + 1) _ (by omega) (by omega)
    · rw [decide_eq_false hlt, List.drop_eq_nil_of_le (by omega)]
      rfl
theorem t70 (n base : Nat) (s : B) (mate : List B) (hl : mate.length = 64) (m0 : M) : rt (n + 67) base 70 [vb s, .agg (mate.map vb).toArray] m0 = some (.ret (vb (aloneB s mate)), m0) := by
  suffices h : ∃ m1, r70 (rt (n + 66)) (n + 66) m0.length (vb s) (.agg (mate.map vb).toArray) m0 = some (.ret (vb (aloneB s mate)), m1) by
    obtain ⟨m1, h⟩ := h
    exact rt_pure (f := 70) (rf := rf70) (by kernel_rfl) (by kernel_rfl) (by kernel_rfl) (n + 66) base _ m0 m1 _ h rfl
  generalize hL : m0.length = L
  unfold r70
  rw [vcall_fun, fVal_fun, boxAgg]
  simp only [k2]
  rw [hL]
  have hq : (m0 ++ [cellR (mate.map vb)])[L]? = some (cellR (mate.map vb)) := by rw [List.getElem?_append_right (by omega), hL]; simp
  have hlen : (m0 ++ [cellR (mate.map vb)]).length = L + 1 := by simp [hL]
  generalize m0 ++ [cellR (mate.map vb)] = m1 at hq hlen
  obtain ⟨v, m2, e2, g2, k2'⟩ := t75 n L m1.length (by omega) s m1 (Nat.le_refl _)
  rw [e2]
  simp only [kc]
  have hq2 := (k2'.2 L (by omega)).trans hq
  unfold aloneB
  have hx64 := sing_len 64 s
  have hnz := sing_nz 64 s
  generalize sing 64 s = X at g2 hx64 hnz ⊢
  rcases g2 with ⟨h1, rfl, _⟩ | ⟨rb, h1, hr1, rfl, hrow, _⟩
  · have hX : X = [] := List.eq_nil_of_length_eq_zero h1
    subst hX
    rw [len86n]
    simp only
    rw [show n + 66 = (n + 65) + 1 by omega, r70_L0_s]
    exact ⟨m2, rfl⟩
  · rw [len86]
    simp only
    rw [show (.int .i64 0 : Value) = vi ((0 : Nat) : Int) from rfl, show (.int .u64 0 : Value) = vb 0 from rfl]
    rw [loop70 (rt (n + 66)) (fun base s m => t76 (n + 64) base s m) (n + 66) L _ _ (X := X) (mate := mate) rfl hx64 hnz hrow hq2 hl (n + 66) 0 0 (by omega) (by omega)]
    exact ⟨m2, rfl⟩
/-- Can it be tiled? as the program judges. -/
def canB (s : B) : Bool := decide (aloneB s (pairB s) = 0)
theorem pairB_len (s : B) : (pairB s).length = 64 := by
  unfold pairB
  rw [pairL_len]; simp
theorem t42 (n base : Nat) (s : B) (m : M) : rt (n + 75) base 42 [vb s] m = some (.ret (.bool (canB s)), m) :=
  rt_pure (f := 42) (rf := rf42) (by kernel_rfl) (by kernel_rfl) (by kernel_rfl) (n + 74) base _ m m _ (by
    show r42 (rt (n + 74)) (n + 74) m.length (vb s) m = _
    unfold r42
    rw [k1_fun, fVal_fun, t71 (n + 1)]
    simp only [kc]
    rw [t70 (n + 7) _ s _ (pairB_len s)]
    simp only
    rw [show (.int .u64 0 : Value) = vb 0 from rfl, b_eq]
    rfl) rfl
end Go.AM
