import Derived.Test.YtlpnjinofohnoaaAmDraw5
set_option linter.unusedVariables false
set_option linter.unusedSimpArgs false
/- Quick words for heaps: the same as the plain ones, for the kernel to reckon with. -/
namespace Go.AM
open Go

section
variable {α : Type} {β : Type}
noncomputable def xget (m : List α) (r : Nat) : Option α :=
  List.rec (motive := fun _ => Nat → Option α) (fun _ => none) (fun x _ ih r => Nat.rec (motive := fun _ => Option α) (some x) (fun r' _ => ih r') r) m r
theorem xget_eq (m : List α) (r : Nat) : xget m r = m[r]? := by
  induction m generalizing r with
  | nil => rfl
  | cons x m ih => cases r with
    | zero => rfl
    | succ r => exact (ih r).trans (by simp)
noncomputable def xpush (m : List α) (a : α) (k : List α → β) : β :=
  List.rec (motive := fun _ => (List α → β) → β) (fun k => k [a]) (fun x _ ih k => ih fun ys => k (x :: ys)) m k
theorem xpush_eq (m : List α) (a : α) (k : List α → β) : xpush m a k = fList (m ++ [a]) k := by
  rw [fList_eq]
  induction m generalizing k with
  | nil => rfl
  | cons x m ih => exact ih fun ys => k (x :: ys)
noncomputable def xset (m : List α) (r : Nat) (a : α) (k : List α → β) : β :=
  List.rec (motive := fun _ => Nat → (List α → β) → β) (fun _ k => k []) (fun x xs ih r k => Nat.rec (motive := fun _ => β) (k (a :: xs)) (fun r' _ => ih r' fun ys => k (x :: ys)) r) m r k
theorem xset_eq (m : List α) (r : Nat) (a : α) (k : List α → β) : xset m r a k = fList (m.set r a) k := by
  rw [fList_eq]
  induction m generalizing r k with
  | nil => rfl
  | cons x m ih => cases r with
    | zero => rfl
    | succ r => exact ih r fun ys => k (x :: ys)
noncomputable def xlen (m : List α) (k : Nat → β) : β :=
  List.rec (motive := fun _ => Nat → β) (fun n => fNat n k) (fun _ _ ih n => fNat (n + 1) ih) m 0
theorem xlen_eq (m : List α) (k : Nat → β) : xlen m k = fNat m.length k := by
  have : ∀ n, List.rec (motive := fun _ => Nat → β) (fun n => fNat n k) (fun _ _ ih n => fNat (n + 1) ih) m n = k (n + m.length) := by
    induction m with
    | nil => intro n; exact fNat_eq n k
    | cons x m ih =>
      intro n
      refine (fNat_eq (n + 1) _).trans ((ih (n + 1)).trans ?_)
      rw [List.length_cons, Nat.add_assoc, Nat.add_comm 1]
  unfold xlen
  rw [this 0, fNat_eq, Nat.zero_add]
noncomputable def xdrop (l : List α) (n : Nat) : List α :=
  List.rec (motive := fun _ => Nat → List α) (fun _ => []) (fun x xs ih n => Nat.rec (motive := fun _ => List α) (x :: xs) (fun n' _ => ih n') n) l n
theorem xdrop_eq (l : List α) (n : Nat) : xdrop l n = l.drop n := by
  induction l generalizing n with
  | nil => simp [xdrop]
  | cons x l ih => cases n with
    | zero => rfl
    | succ n => exact (ih n).trans (by simp)
noncomputable def xtake (n : Nat) (l : List α) : Option (List α) :=
  Nat.rec (motive := fun _ => List α → Option (List α)) (fun _ => some []) (fun _ ih l => match l with
    | [] => none
    | x :: xs => match ih xs with
      | some ys => some (x :: ys)
      | none => none) n l
theorem xtake_eq (n : Nat) (l : List α) : xtake n l = if n ≤ l.length then some (l.take n) else none := by
  induction n generalizing l with
  | zero => exact (show xtake 0 l = some [] from rfl).trans (by simp)
  | succ n ih => cases l with
    | nil => exact (show xtake (n + 1) ([] : List α) = none from rfl).trans (by simp)
    | cons x l =>
      refine Eq.trans (show xtake (n + 1) (x :: l) = match xtake n l with | some ys => some (x :: ys) | none => none from rfl) ?_
      rw [ih l]
      by_cases h : n ≤ l.length
      · simp [h]
      · simp [h]
end

noncomputable def xread (m : M) (r off k : Nat) : Option (List Value) := match k with
  | 0 => mread m r off 0
  | k + 1 => match xget m r with
    | none => none
    | some row => xtake (k + 1) (xdrop row.cells off)
theorem xread_eq (m : M) (r off k : Nat) : xread m r off k = mread m r off k := by
  unfold xread
  split
  · rfl
  · rename_i k
    unfold mread
    rw [xget_eq]
    cases m[r]? with
    | none => rfl
    | some row =>
      show xtake (k + 1) (xdrop row.cells off) = if off + (k + 1) ≤ row.cells.length then some ((row.cells.drop off).take (k + 1)) else none
      rw [xtake_eq, xdrop_eq, List.length_drop]
      by_cases h : off + (k + 1) ≤ row.cells.length
      · rw [if_pos h, if_pos (by omega)]
      · rw [if_neg h, if_neg (by omega)]
noncomputable def xcell (m : M) (r off : Nat) : Option Value := match xget m r with
  | none => none
  | some row => xget row.cells off
theorem xcell_eq (m : M) (r off : Nat) : xcell m r off = mcell m r off := by
  unfold xcell mcell
  rw [xget_eq]
  cases m[r]? with
  | none => rfl
  | some row => exact xget_eq _ _

noncomputable def xload (P : Program) (m : M) (t : TypeId) (a : Value) : Option Value :=
  match a with
  | .pointer (some ⟨r, off, none⟩) =>
    match isAggB P t with
    | some true => match szOf P t with
      | some n => (xread m r off n).map fun cs => .agg cs.toArray
      | none => none
    | some false => xcell m r off
    | none => none
  | _ => none
theorem xload_eq (P : Program) (m : M) (t : TypeId) (a : Value) : xload P m t a = mload P m t a := by
  unfold xload mload
  simp only [xread_eq, xcell_eq]
  rfl

noncomputable def xwrite (base : Nat) (m : M) (r off : Nat) (vs : List Value) : Option M :=
  match Nat.ble base r with
  | false => none
  | true =>
  match xget m r with
  | none => none
  | some row =>
    if row.ro then none else
    if off + vs.length ≤ row.cells.length then
      if vs.all (·.oneCell') then fList (splice row.cells off vs) fun cells => xset m r { row with cells := cells } some else none
    else none
theorem xwrite_eq (base : Nat) (m : M) (r off : Nat) (vs : List Value) : xwrite base m r off vs = mwrite base m r off vs := by
  unfold xwrite mwrite
  simp only [xget_eq, xset_eq]
  by_cases h : r < base
  · rw [if_pos h]
    have : Nat.ble base r = false := by
      cases hb : Nat.ble base r with
      | false => rfl
      | true => exact absurd (Nat.le_of_ble_eq_true hb) (by omega)
    rw [this]
  · rw [if_neg h]
    have : Nat.ble base r = true := Nat.ble_eq_true_of_le (by omega)
    rw [this]
    rfl
noncomputable def xkill (base : Nat) (m : M) (r : Nat) (k : M → Option (Value × M)) : Option (Value × M) :=
  match Nat.ble base r with
  | false => none
  | true =>
  match xget m r with
  | none => none
  | some row => if row.ro then none else xset m r { row with cells := [] } k
theorem xkill_eq (base : Nat) (m : M) (r : Nat) (k : M → Option (Value × M)) : xkill base m r k = (mkill base m r).bind k := by
  unfold xkill mkill
  simp only [xget_eq, xset_eq, fList_eq]
  by_cases h : r < base
  · rw [if_pos h]
    have : Nat.ble base r = false := by
      cases hb : Nat.ble base r with
      | false => rfl
      | true => exact absurd (Nat.le_of_ble_eq_true hb) (by omega)
    rw [this]; rfl
  · rw [if_neg h]
    have : Nat.ble base r = true := Nat.ble_eq_true_of_le (by omega)
    rw [this]
    cases m[r]? with
    | none => rfl
    | some row => cases hr : row.ro <;> simp [hr]

noncomputable def xstore (P : Program) (base : Nat) (m : M) (t : TypeId) (a v : Value) : Option M :=
  match a with
  | .pointer (some ⟨r, off, none⟩) =>
    match szOf P t with
    | some n => if v.cells.size = n then xwrite base m r off v.cells.toList else none
    | none => none
  | _ => none
theorem xstore_eq (P : Program) (base : Nat) (m : M) (t : TypeId) (a v : Value) : xstore P base m t a v = mstore P base m t a v := by
  unfold xstore mstore
  simp only [xwrite_eq]
  rfl

noncomputable def xalloc (P : Program) (m : M) (t : TypeId) : Option (Value × M) :=
  match zeroOf P t with
  | some z => xlen m fun n => fList z.cells.toList fun cs => xpush m { esz := 0, ex := true, ro := false, cells := cs } fun m' => some (.pointer (some ⟨n, 0, none⟩), m')
  | none => none
theorem xalloc_eq (P : Program) (m : M) (t : TypeId) : xalloc P m t = oalloc P m t := by
  unfold xalloc oalloc
  simp only [xlen_eq, xpush_eq]
  try rfl
noncomputable def xbox (m : M) (v : Value) : Option (Value × M) :=
  xlen m fun n => fList v.cells.toList fun cs => xpush m { esz := 0, ex := true, ro := false, cells := cs } fun m' => some (.pointer (some ⟨n, 0, none⟩), m')
theorem xbox_eq (m : M) (v : Value) : xbox m v = vbox m v := by
  unfold xbox vbox
  simp only [xlen_eq, xpush_eq]
  try rfl

noncomputable def xbuildSlice (P : Program) (m : M) (t : TypeId) (len : Nat) (parts : List (Nat × Value)) : Option (Value × M) :=
  match P.underlying t with
  | some (.slice elem) =>
    match szOf P elem, zeroOf P elem with
    | some size, some z =>
      if size = 0 then none else
      if z.cells.size ≠ size then none else
      if len * size > 2 ^ 24 then none else
      match Instr.fill (fun i => some (i * size, size)) (repCells z.cells.toList len).toArray parts with
      | none => none
      | some cells => xlen m fun n => fList cells.toList fun cs => xpush m { esz := size, ex := true, ro := false, cells := cs } fun m' => some (.slice (some ⟨n, 0, none⟩) len len, m')
    | _, _ => none
  | _ => none
theorem xbuildSlice_eq (P : Program) (m : M) (t : TypeId) (len : Nat) (parts : List (Nat × Value)) : xbuildSlice P m t len parts = mbuildSlice P m t len parts := by
  unfold xbuildSlice mbuildSlice
  simp only [xlen_eq, xpush_eq]
  try rfl

noncomputable def xmakeSlice (P : Program) (m : M) (t : TypeId) (l c : Value) : Option (Value × M) :=
  match P.underlying t, l, c with
  | some (.slice elem), .int .i64 l, .int .i64 c =>
    match P.info? elem, zeroOf P elem with
    | some i, some z =>
      if i.size = 0 ∨ z.cells.size ≠ i.size then none else
      if l < 0 ∨ c < l ∨ c > 2 ^ 40 ∨ i.bytes > 2 ^ 7 then none else
      xlen m fun n => fNat l.toNat fun l => fNat c.toNat fun c => fList (repCells z.cells.toList c) fun cs =>
        xpush m { esz := i.size, ex := true, ro := false, cells := cs } fun m' => some (.slice (some ⟨n, 0, none⟩) l c, m')
    | _, _ => none
  | _, _, _ => none
theorem xmakeSlice_eq (P : Program) (m : M) (t : TypeId) (l c : Value) : xmakeSlice P m t l c = mmakeSlice P m t l c := by
  unfold xmakeSlice mmakeSlice
  simp only [xlen_eq, xpush_eq]
  try rfl

noncomputable def xsource (m : M) (size : Nat) : Value → Option (Nat × List Value)
  | .slice none 0 0 => some (0, [])
  | .slice (some ⟨r, off, none⟩) n _ => (xread m r off (n * size)).map fun cs => (n, cs)
  | _ => none
theorem xsource_eq (m : M) (size : Nat) (v : Value) : xsource m size v = msource m size v := by
  unfold xsource msource
  simp only [xread_eq]
  rfl

noncomputable def xappend (P : Program) (base : Nat) (m : M) (tys : List TypeId) (s x : Value) : Option (Value × M) :=
  match tys with
  | [t, u] =>
    match P.underlying t, P.underlying u with
    | some (.slice elem), some (.slice _) =>
      match P.info? elem, zeroOf P elem with
      | some i, some z =>
        if i.size = 0 ∨ i.bytes > 2 ^ 7 ∨ z.cells.size ≠ i.size then none else
        match xsource m i.size x with
        | none => none
        | some (n, news) =>
          match s with
          | .slice none 0 0 =>
            if n = 0 then some (s, m) else
            if n > 2 ^ 38 then none else
            xlen m fun k => fList news fun cs => xpush m { esz := i.size, ex := false, ro := false, cells := cs } fun m' => some (.slice (some ⟨k, 0, none⟩) n n, m')
          | .slice (some ⟨r, off, none⟩) len cap =>
            if len + n ≤ cap then
              if n = 0 then some (s, m) else
              (xwrite base m r (off + len * i.size) news).bind fun m' => fNat (len + n) fun k => some (.slice (some ⟨r, off, none⟩) k cap, m')
            else
              if len + n > 2 ^ 38 then none else
              match xget m r, xread m r off (len * i.size) with
              | some row, some olds =>
                if row.esz ≠ i.size then none else
                xlen m fun k => fNat (len + n) fun c => fList (olds ++ news) fun cs =>
                if row.ex then xpush m { esz := i.size, ex := false, ro := false, cells := cs } fun m' => some (.slice (some ⟨k, 0, none⟩) c c, m')
                else if row.cells.isEmpty then none
                else if news.all (·.oneCell') then xkill base m r fun m' => xpush m' { esz := i.size, ex := false, ro := false, cells := cs } fun m' => some (.slice (some ⟨k, 0, none⟩) c c, m')
                else none
              | _, _ => none
          | _ => none
      | _, _ => none
    | _, _ => none
  | _ => none
theorem xappend_eq (P : Program) (base : Nat) (m : M) (tys : List TypeId) (s x : Value) : xappend P base m tys s x = mappend P base m tys s x := by
  unfold xappend mappend
  simp only [xlen_eq, xpush_eq, xsource_eq, xwrite_eq, xget_eq, xread_eq, xkill_eq]
  rfl

noncomputable def xbuiltin (P : Program) (base : Nat) (m : M) (b : Builtin) (tys : List TypeId) (vs : List Value) : Option (Value × M) :=
  match b with
  | .append => match vs with
    | [s, x] => xappend P base m tys s x
    | _ => none
  | b => obuiltin P base m b tys vs
theorem xbuiltin_eq (P : Program) (base : Nat) (m : M) (b : Builtin) (tys : List TypeId) (vs : List Value) : xbuiltin P base m b tys vs = obuiltin P base m b tys vs := by
  unfold xbuiltin
  split
  · unfold obuiltin
    simp only [xappend_eq]
    rfl
  · rfl
noncomputable def xslice (P : Program) (m : M) (t : TypeId) (x : Value) (lo hi mx : Option Value) : Option Value := mslice P m t x lo hi mx
end Go.AM
