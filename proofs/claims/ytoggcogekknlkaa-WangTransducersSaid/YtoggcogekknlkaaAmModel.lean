import Derived.Laws.BytesArg
import Derived.WalkKit
import Derived.Test.YtoggcogekknlkaaAmB
set_option linter.unusedVariables false
set_option linter.unusedSimpArgs false
set_option linter.unusedSectionVars false
namespace Go.AM
open Go
universe u v
structure Row where
  esz : Nat
  ex : Bool
  ro : Bool
  cells : List Value
abbrev M := List Row
inductive Ret where
  | ret (v : Value)
  | pan (v : Value)
inductive MExit where
  | normal
  | exit (id : Nat)
  | ret
  | pan (v : Value)
structure Env where
  P : Program
  pure : FuncId → Bool
  eqt : TypeId → List Nat
  live : FuncId → Nat → Option (List Nat)
/-- A frame: how many temporaries there are, and what some of them hold (the newest first). -/
structure Fr where
  n : Nat
  l : List (Nat × Value)
def alook : List (Nat × Value) → Nat → Option Value
  | [], _ => none
  | (k, v) :: l, t => match Nat.beq k t with
    | true => some v
    | false => alook l t
def collect (l : List (Nat × Value)) : List Nat → List (Nat × Value)
  | [] => []
  | k :: ks => match alook l k with
    | some v => (k, v) :: collect l ks
    | none => collect l ks
/-- Of a frame what is kept. -/
def Fr.trim (T : Fr) (keep : Option (List Nat)) : Fr :=
  match keep with
  | none => T
  | some ks => { T with l := collect T.l ks }
/-- A call of a function: the number below which rows are not written, the function, its arguments. -/
abbrev CallF := Nat → FuncId → List Value → M → Option (Ret × M)
def vsimple : Value → Bool
  | .bool _ | .int _ _ | .float _ _ | .string _ | .pointer none | .slice none 0 0 | .map none | .nilFunc | .nilIface => true
  | _ => false
def vconst (v : Value) : Bool :=
  vsimple v || match v with
    | .agg cs => cs.toList.all vsimple
    | .tuple cs => cs.toList.all vsimple
    | _ => false
def ev (T : Fr) : Operand → Option Value
  | .tmp t => alook T.l t
  | .const v => if vconst v then some v else none
  | .global g => match glook gtabs g with
    | some _ => some (.pointer (some ⟨g, 0, some 0⟩))
    | none => none
  | .func f => some (.func (.func f) #[] #[])
def fNat {β : Sort u} (n : Nat) (k : Nat → β) : β :=
  match n with
  | 0 => k 0
  | n + 1 => k (n + 1)
def fInt {β : Sort u} (n : Int) (k : Int → β) : β :=
  match n with
  | .ofNat a => fNat a fun a => k (.ofNat a)
  | .negSucc a => fNat a fun a => k (.negSucc a)
def fBool {β : Sort u} (b : Bool) (k : Bool → β) : β :=
  match b with
  | true => k true
  | false => k false
/-- A list's spine. -/
def fList {α : Type v} {β : Sort u} : List α → (List α → β) → β
  | [], k => k []
  | x :: xs, k => fList xs fun ys => k (x :: ys)
def fVal {β : Sort u} (v : Value) (k : Value → β) : β :=
  match v with
  | .bool b => fBool b fun b => k (.bool b)
  | .int q n => fInt n fun n => k (.int q n)
  | .pointer (some ⟨b, off, s⟩) => fNat b fun b => fNat off fun off => k (.pointer (some ⟨b, off, s⟩))
  | .slice (some ⟨b, off, s⟩) len cap => fNat b fun b => fNat off fun off => fNat len fun len => fNat cap fun cap => k (.slice (some ⟨b, off, s⟩) len cap)
  | .agg cs => fList cs.toList fun l => k (.agg l.toArray)
  | .tuple cs => fList cs.toList fun l => k (.tuple l.toArray)
  | v => k v
theorem fNat_eq {β : Sort u} (n : Nat) (k : Nat → β) : fNat n k = k n := by cases n <;> rfl
theorem fInt_eq {β : Sort u} (n : Int) (k : Int → β) : fInt n k = k n := by cases n <;> simp only [fInt, fNat_eq]
theorem fBool_eq {β : Sort u} (b : Bool) (k : Bool → β) : fBool b k = k b := by cases b <;> rfl
theorem fList_eq {α : Type v} {β : Sort u} : ∀ (l : List α) (k : List α → β), fList l k = k l
  | [], _ => rfl
  | x :: xs, k => by rw [fList, fList_eq xs]
theorem fVal_eq {β : Sort u} (v : Value) (k : Value → β) : fVal v k = k v := by
  unfold fVal
  split
  · rw [fBool_eq]
  · rw [fInt_eq]
  · simp only [fNat_eq]
  · simp only [fNat_eq]
  · rw [fList_eq]
  · rw [fList_eq]
  · rfl
def evs (T : Fr) : List Operand → Option (List Value)
  | [] => some []
  | x :: xs => match ev T x with
    | none => none
    | some v => match evs T xs with
      | none => none
      | some vs => some (v :: vs)
def mread (m : M) (r off k : Nat) : Option (List Value) :=
  match m[r]? with
  | none => none
  | some row => if off + k ≤ row.cells.length then some ((row.cells.drop off).take k) else none
def mcell (m : M) (r off : Nat) : Option Value :=
  match m[r]? with
  | none => none
  | some row => row.cells[off]?
def splice (cs : List Value) (off : Nat) (vs : List Value) : List Value := cs.take off ++ vs ++ cs.drop (off + vs.length)
def mwrite (base : Nat) (m : M) (r off : Nat) (vs : List Value) : Option M :=
  if r < base then none else
  match m[r]? with
  | none => none
  | some row =>
    if row.ro then none else
    if off + vs.length ≤ row.cells.length then
      if vs.all (·.oneCell') then fList (splice row.cells off vs) fun cells => fList (m.set r { row with cells := cells }) some else none
    else none
def mkill (base : Nat) (m : M) (r : Nat) : Option M :=
  if r < base then none else
  match m[r]? with
  | none => none
  | some row => if row.ro then none else fList (m.set r { row with cells := [] }) some
def isAggB (P : Program) (t : TypeId) : Option Bool :=
  match P.underlying t with
  | some (.struct _) | some (.array _ _) => some true
  | some _ => some false
  | none => none
/-- The cells' number of a type's value. -/
def szOf (P : Program) (t : TypeId) : Option Nat := (P.info? t).map (·.size)
/-- Cells of a variable that stays as it is laid. -/
def gread (g off k : Nat) : Option (List Value) :=
  match glook gtabs g with
  | none => none
  | some l => if off + k ≤ l.length then (if ((l.drop off).take k).all vsimple then some ((l.drop off).take k) else none) else none
def gload (P : Program) (t : TypeId) (g off : Nat) : Option Value :=
  match isAggB P t with
  | some true => match szOf P t with
    | some n => (gread g off n).map fun cs => .agg cs.toArray
    | none => none
  | some false => match gread g off 1 with
    | some [v] => some v
    | _ => none
  | none => none
def mload (P : Program) (m : M) (t : TypeId) (a : Value) : Option Value :=
  match a with
  | .pointer (some ⟨r, off, none⟩) =>
    match isAggB P t with
    | some true => match szOf P t with
      | some n => (mread m r off n).map fun cs => .agg cs.toArray
      | none => none
    | some false => mcell m r off
    | none => none
  | .pointer (some ⟨g, off, some 0⟩) => gload P t g off
  | _ => none
def mstore (P : Program) (base : Nat) (m : M) (t : TypeId) (a v : Value) : Option M :=
  match a with
  | .pointer (some ⟨r, off, none⟩) =>
    match szOf P t with
    | some n => if v.cells.size = n then mwrite base m r off v.cells.toList else none
    | none => none
  | _ => none
def mint (op : BinOp) (k : IntKind) (x y : Int) : Option Value :=
  match op with
  | .add => some (.int k (k.wrap (x + y)))
  | .sub => some (.int k (k.wrap (x - y)))
  | .mul => some (.int k (k.wrap (x * y)))
  | .quo => if y = 0 then none else some (.int k (k.wrap (x.tdiv y)))
  | .rem => if y = 0 then none else some (.int k (x.tmod y))
  | .and => some (.int k (k.wrap (BitVec.ofInt k.bits x &&& BitVec.ofInt k.bits y).toNat))
  | .or => some (.int k (k.wrap (BitVec.ofInt k.bits x ||| BitVec.ofInt k.bits y).toNat))
  | .xor => some (.int k (k.wrap (BitVec.ofInt k.bits x ^^^ BitVec.ofInt k.bits y).toNat))
  | .andNot => some (.int k (k.wrap (BitVec.ofInt k.bits x &&& ~~~(BitVec.ofInt k.bits y)).toNat))
  | .eql => some (.bool (x == y))
  | .neq => some (.bool (x != y))
  | .lss => some (.bool (x < y))
  | .leq => some (.bool (x ≤ y))
  | .gtr => some (.bool (x > y))
  | .geq => some (.bool (x ≥ y))
  | _ => none
def mstr (op : BinOp) (x y : ByteArray) : Option Value :=
  match op with
  | .add => if x.size + y.size ≤ 4611686018427387904 then some (.string (x ++ y)) else none
  | .eql => some (.bool (x.toList == y.toList))
  | .neq => some (.bool !(x.toList == y.toList))
  | .lss => some (.bool (Op.bytesLess x.toList y.toList))
  | _ => none
/-- Two cells of plain kinds (numbers 0, bools 1): equal? -/
def ceq : Nat → Value → Value → Option Bool
  | 0, .int k a, .int k' b => if k = k' then some (a == b) else none
  | 1, .bool a, .bool b => some (a == b)
  | _, _, _ => none
/-- Of each field twice the place, and 1 for a bool. -/
def ceqs (xs ys : List Value) : List Nat → Option Bool
  | [] => some true
  | i :: is => match xs[i / 2]?, ys[i / 2]? with
    | some x, some y => match ceq (i % 2) x y with
      | some true => ceqs xs ys is
      | some false => some false
      | none => none
    | _, _ => none
def mbin (E : Env) (op : BinOp) (t : TypeId) (x y : Value) : Option Value :=
  match x, y with
  | .int k a, .int k' b =>
    match op with
    | .shl => if b < 0 then none else some (.int k (k.wrap (a * 2 ^ (min b.toNat k.bits))))
    | .shr => if b < 0 then none else some (.int k (a.fdiv (2 ^ (min b.toNat k.bits))))
    | _ => if k = k' then mint op k a b else none
  | .string a, .string b => mstr op a b
  | .bool a, .bool b =>
    match E.P.underlying t with
    | some .bool => match op with
      | .eql => some (.bool (a == b))
      | .neq => some (.bool (!(a == b)))
      | _ => none
    | _ => none
  | .slice a _ _, .slice none 0 0 =>
    match E.P.underlying t with
    | some (.slice _) => match op with
      | .eql => some (.bool a.isNone)
      | .neq => some (.bool (!a.isNone))
      | _ => none
    | _ => none
  | .agg xs, .agg ys =>
    match E.eqt t with
    | [] => none
    | is => match op with
      | .eql => (ceqs xs.toList ys.toList is).map .bool
      | .neq => (ceqs xs.toList ys.toList is).map fun b => .bool (!b)
      | _ => none
  | _, _ => none
def mun (op : UnOp) (x : Value) : Option Value :=
  match op, x with
  | .neg, .int k n => some (.int k (k.wrap (0 - n)))
  | .xor, .int k n => some (.int k (k.wrap (BitVec.ofInt k.bits (if k.signed then -1 else k.max) ^^^ BitVec.ofInt k.bits n).toNat))
  | .not, .bool b => some (.bool !b)
  | _, _ => none
def evParts (T : Fr) : List (Nat × Operand) → Option (List (Nat × Value))
  | [] => some []
  | (i, x) :: xs => match ev T x with
    | none => none
    | some v => match evParts T xs with
      | none => none
      | some vs => some ((i, v) :: vs)
def zeroOf (P : Program) (t : TypeId) : Option Value :=
  match P.info? t with
  | some i => match i.zero with
    | some z => if vconst z then some z else none
    | none => none
  | none => none
/-- The places of a struct's fields: offset and number of cells. -/
def placesOf (P : Program) : List Field → Option (List (Nat × Nat))
  | [] => some []
  | f :: fs => match szOf P f.type with
    | none => none
    | some n => match placesOf P fs with
      | none => none
      | some ps => some ((f.offset, n) :: ps)
def mbuild (P : Program) (t : TypeId) (parts : List (Nat × Value)) : Option Value :=
  match zeroOf P t with
  | none => none
  | some z =>
    match P.underlying t with
    | some (.struct fields) => match placesOf P fields.toList with
      | none => none
      | some ps => (Instr.fill (ps.toArray[·]?) z.cells parts).map .agg
    | some (.array _ elem) => match szOf P elem with
      | none => none
      | some size => (Instr.fill (fun i => some (i * size, size)) z.cells parts).map .agg
    | _ => none
def repCells (zero : List Value) : Nat → List Value
  | 0 => []
  | n + 1 => zero ++ repCells zero n
def mbuildSlice (P : Program) (m : M) (t : TypeId) (len : Nat) (parts : List (Nat × Value)) : Option (Value × M) :=
  match P.underlying t with
  | some (.slice elem) =>
    match szOf P elem, zeroOf P elem with
    | some size, some z =>
      if size = 0 then none else
      if z.cells.size ≠ size then none else
      if len * size > 2 ^ 24 then none else
      match Instr.fill (fun i => some (i * size, size)) (repCells z.cells.toList len).toArray parts with
      | none => none
      | some cells => fNat m.length fun n => fList cells.toList fun cs => fList (m ++ [{ esz := size, ex := true, ro := false, cells := cs }]) fun m' => some (.slice (some ⟨n, 0, none⟩) len len, m')
    | _, _ => none
  | _ => none
def mmakeSlice (P : Program) (m : M) (t : TypeId) (l c : Value) : Option (Value × M) :=
  match P.underlying t, l, c with
  | some (.slice elem), .int .i64 l, .int .i64 c =>
    match P.info? elem, zeroOf P elem with
    | some i, some z =>
      if i.size = 0 ∨ z.cells.size ≠ i.size then none else
      if l < 0 ∨ c < l ∨ c > 2 ^ 40 ∨ i.bytes > 2 ^ 7 then none else
      fNat m.length fun n => fNat l.toNat fun l => fNat c.toNat fun c => fList (repCells z.cells.toList c) fun cs =>
        fList (m ++ [{ esz := i.size, ex := true, ro := false, cells := cs }]) fun m' => some (.slice (some ⟨n, 0, none⟩) l c, m')
    | _, _ => none
  | _, _, _ => none
def optNat (y : Nat) : Option Value → Option Nat
  | none => some y
  | some (.int _ i) => if 0 ≤ i then some i.toNat else none
  | some _ => none
def mslice (P : Program) (m : M) (t : TypeId) (x : Value) (lo hi mx : Option Value) : Option Value :=
  match P.underlying t, x, mx with
  | some (.slice elem), .slice a len cap, none =>
    match optNat 0 lo, optNat len hi, szOf P elem with
    | some l, some h, some size =>
      if h ≤ cap ∧ l ≤ h then
        match a with
        | none => some (.slice none 0 0)
        | some ⟨r, off, none⟩ => match m[r]? with
          | some row => if row.esz = size then some (.slice (some ⟨r, off + l * size, none⟩) (h - l) (cap - l)) else none
          | none => none
        | _ => none
      else none
    | _, _, _ => none
  | some (.slice elem), .slice a len cap, some b =>
    match lo, hi, b, szOf P elem with
    | none, some (.int _ h), .int _ k, some size =>
      if h = k ∧ 0 ≤ k ∧ k ≤ (cap : Int) then
        match a with
        | none => some (.slice none 0 0)
        | some ⟨r, off, none⟩ => match m[r]? with
          | some row => if row.esz = size then some (.slice (some ⟨r, off, some 0⟩) k.toNat k.toNat) else none
          | none => none
        | _ => none
      else none
    | _, _, _, _ => none
  | some (.array n elem), .pointer (some ⟨r, off, none⟩), none =>
    match lo, optNat n hi, szOf P elem with
    | none, some h, some _ => if h ≤ n then some (.slice (some ⟨r, off, some 2⟩) h n) else none
    | _, _, _ => none
  | some .string, .string s, none =>
    match optNat 0 lo, optNat s.size hi with
    | some l, some h => if h ≤ s.size ∧ l ≤ h then some (.string (s.extract l h)) else none
    | _, _ => none
  | _, _, _ => none
def mfieldAddr (P : Program) (s : TypeId) (x : Value) (f : Nat) : Option Value :=
  match P.underlying s, x with
  | some (.struct fields), .pointer (some ⟨r, off, none⟩) =>
    match fields[f]? with
    | some fd => match szOf P fd.type with
      | some (_ + 1) => some (.pointer (some ⟨r, off + fd.offset, none⟩))
      | _ => none
    | none => none
  | some (.struct fields), .pointer (some ⟨g, off, some 0⟩) =>
    match fields[f]? with
    | some fd => match szOf P fd.type with
      | some (_ + 1) => some (.pointer (some ⟨g, off + fd.offset, some 0⟩))
      | _ => none
    | none => none
  | _, _ => none
def mpart (P : Program) (t : TypeId) (cs : List Value) (off : Nat) : Option Value :=
  match isAggB P t with
  | some true => match szOf P t with
    | some n => if off + n ≤ cs.length then some (.agg ((cs.drop off).take n).toArray) else none
    | none => none
  | some false => cs[off]?
  | none => none
def mfield (P : Program) (t : TypeId) (x : Value) (f : Nat) : Option Value :=
  match P.underlying t, x with
  | some (.struct fields), .agg cs =>
    match fields[f]? with
    | some fd => mpart P fd.type cs.toList fd.offset
    | none => none
  | _, _ => none
def mindexAddr (P : Program) (t : TypeId) (x ix : Value) : Option Value :=
  match P.underlying t, x, ix with
  | some (.slice elem), .slice (some ⟨r, off, none⟩) len _, .int _ i =>
    match szOf P elem with
    | some size => if 0 ≤ i ∧ i < len then some (.pointer (some ⟨r, off + i.toNat * size, none⟩)) else none
    | none => none
  | some (.array len elem), .pointer (some ⟨r, off, none⟩), .int _ i =>
    match szOf P elem with
    | some size => if 0 ≤ i ∧ i < len then some (.pointer (some ⟨r, off + i.toNat * size, none⟩)) else none
    | none => none
  | some (.array len elem), .pointer (some ⟨g, off, some 0⟩), .int _ i =>
    match szOf P elem with
    | some size => if 0 ≤ i ∧ i < len then some (.pointer (some ⟨g, off + i.toNat * size, some 0⟩)) else none
    | none => none
  | _, _, _ => none
def mindex (P : Program) (t : TypeId) (x ix : Value) : Option Value :=
  match P.underlying t, x, ix with
  | some (.array len elem), .agg cs, .int _ i =>
    match szOf P elem with
    | some size => if 0 ≤ i ∧ i < len then mpart P elem cs.toList (i.toNat * size) else none
    | none => none
  | some .string, .string s, .int _ i =>
    if 0 ≤ i then (s[i.toNat]?).map fun b => .int .u8 b.toNat else none
  | _, _, _ => none
def mlen (P : Program) (t : TypeId) (x : Value) : Option Value :=
  match P.underlying t, x with
  | some .string, .string s => some (.int .i64 s.size)
  | some (.array n _), _ => some (.int .i64 n)
  | some (.slice _), .slice _ n _ => some (.int .i64 n)
  | _, _ => none
/-- The cells that 'append' or 'copy' takes from a slice. -/
def strBytes (s : ByteArray) : List Value := s.data.toList.map fun b => .int .u8 (b.toNat : Int)
/-- What may be appended: a slice, or a string's bytes. -/
def srcOk (P : Program) (u : TypeId) : Bool := match P.underlying u with
  | some (.slice _) => true
  | some .string => true
  | _ => false
def msource (m : M) (size : Nat) : Value → Option (Nat × List Value)
  | .slice none 0 0 => some (0, [])
  | .string s => if size = 1 then some (s.size, strBytes s) else none
  | .slice (some ⟨r, off, none⟩) n _ => (mread m r off (n * size)).map fun cs => (n, cs)
  | .slice (some ⟨0, 0, some 1⟩) 0 0 => some (0, [])
  | .slice (some ⟨r, off, some 2⟩) n _ => (mread m r off (n * size)).map fun cs => (n, cs)
  | _ => none
/-- A slice of so many zeros, appended to nil. -/
def mzeros (P : Program) (m : M) (elem u : TypeId) (s x : Value) : Option (Value × M) :=
  match P.underlying u, s, x, P.info? elem, zeroOf P elem with
  | some (.int _), .slice none 0 0, .int _ n, some i, some z =>
    if i.size = 0 ∨ i.bytes > 2 ^ 7 ∨ z.cells.size ≠ i.size ∨ n < 1 ∨ n > 2 ^ 38 then none else
    fNat m.length fun k => fNat n.toNat fun c => fList (repCells z.cells.toList c) fun cs => fList (m ++ [{ esz := i.size, ex := false, ro := false, cells := cs }]) fun m' => some (.slice (some ⟨k, 0, none⟩) c c, m')
  | _, _, _, _, _ => none
def mappend (P : Program) (base : Nat) (m : M) (tys : List TypeId) (s x : Value) : Option (Value × M) :=
  match tys with
  | [t, u] =>
    match P.underlying t, srcOk P u with
    | some (.slice elem), true =>
      match P.info? elem, zeroOf P elem with
      | some i, some z =>
        if i.size = 0 ∨ i.bytes > 2 ^ 7 ∨ z.cells.size ≠ i.size then none else
        match msource m i.size x with
        | none => none
        | some (n, news) =>
          match s with
          | .slice none 0 0 =>
            if n = 0 then some (s, m) else
            if n > 2 ^ 38 then none else
            fNat m.length fun k => fList news fun cs => fList (m ++ [{ esz := i.size, ex := false, ro := false, cells := cs }]) fun m' => some (.slice (some ⟨k, 0, none⟩) n n, m')
          | .slice (some ⟨r, off, none⟩) len cap =>
            if len + n ≤ cap then
              if n = 0 then some (s, m) else
              (mwrite base m r (off + len * i.size) news).bind fun m' => fNat (len + n) fun k => some (.slice (some ⟨r, off, none⟩) k cap, m')
            else
              if len + n > 2 ^ 38 then none else
              match m[r]?, mread m r off (len * i.size) with
              | some row, some olds =>
                if row.esz ≠ i.size then none else
                fNat m.length fun k => fNat (len + n) fun c => fList (olds ++ news) fun cs =>
                let new : Row := { esz := i.size, ex := false, ro := false, cells := cs }
                if row.ex then fList (m ++ [new]) fun m' => some (.slice (some ⟨k, 0, none⟩) c c, m')
                else if row.cells.isEmpty then none
                else if news.all (·.oneCell') then (mkill base m r).bind fun m' => fList (m' ++ [new]) fun m' => some (.slice (some ⟨k, 0, none⟩) c c, m')
                else none
              | _, _ => none
          | .slice (some ⟨r, off, some 0⟩) len cap =>
            if n = 0 then some (s, m) else
            if len ≠ cap then none else
            if len + n > 2 ^ 38 then none else
            match m[r]?, mread m r off (len * i.size) with
            | some row, some olds =>
              if row.esz ≠ i.size then none else
              fNat m.length fun k => fNat (len + n) fun c => fList (olds ++ news) fun cs =>
              fList (m ++ [{ esz := i.size, ex := false, ro := false, cells := cs }]) fun m' => some (.slice (some ⟨k, 0, none⟩) c c, m')
            | _, _ => none
          | _ => none
      | _, _ => none
    | some (.slice elem), false => mzeros P m elem u s x
    | _, _ => none
  | _ => none
/-- The room of a slice, where it is known. -/
def mcap (P : Program) (m : M) (t : TypeId) (x : Value) : Option Value :=
  match P.underlying t, x with
  | some (.slice _), .slice none 0 0 => some (.int .i64 0)
  | some (.slice _), .slice (some ⟨r, _, none⟩) _ c => match m[r]? with
    | some row => if row.ex then some (.int .i64 c) else none
    | none => none
  | _, _ => none
def mclear (P : Program) (base : Nat) (m : M) (t : TypeId) (x : Value) : Option (Value × M) :=
  match P.underlying t with
  | some (.slice elem) =>
    match zeroOf P elem with
    | some z =>
      if z.cells.size = 0 then none else
      match x with
      | .slice none 0 0 => some (.tuple #[], m)
      | .slice (some ⟨r, off, none⟩) n _ => (mwrite base m r off (repCells z.cells.toList n)).map fun m' => (.tuple #[], m')
      | _ => none
    | none => none
  | _ => none
def mcopy (P : Program) (base : Nat) (m : M) (tys : List TypeId) (d x : Value) : Option (Value × M) :=
  match tys with
  | [t, _] =>
    match P.underlying t with
    | some (.slice elem) =>
      match szOf P elem with
      | some size =>
        if size = 0 then none else
        match d, x with
        | .slice (some ⟨r, off, none⟩) dl _, .slice (some ⟨r', off', none⟩) sl _ =>
          match mread m r' off' (min sl dl * size) with
          | none => none
          | some cs => (mwrite base m r off cs).map fun m' => (.int .i64 ((min sl dl : Nat) : Int), m')
        | .slice none 0 0, .slice _ _ _ => some (.int .i64 0, m)
        | .slice (some _) _ _, .slice none 0 0 => some (.int .i64 0, m)
        | _, _ => none
      | none => none
    | _ => none
  | _ => none
def mmin2 : Value → Value → Option Value
  | .int k x, .int _ y => some (.int k (if y < x then y else x))
  | _, _ => none
def mmax2 : Value → Value → Option Value
  | .int k x, .int _ y => some (.int k (if y > x then y else x))
  | _, _ => none
def mfold (f : Value → Value → Option Value) : Value → List Value → Option Value
  | x, [] => some x
  | x, y :: ys => match f x y with
    | some z => mfold f z ys
    | none => none
def mconvert (P : Program) (src dst : TypeId) (x : Value) : Option Value :=
  match P.underlying src, P.underlying dst, x with
  | some (.int _), some (.int k), .int _ n => some (.int k (k.wrap n))
  | some .string, some .string, .string s => some (.string s)
  | _, _, _ => none
def bytesOf : List Value → Option (List Int)
  | [] => some []
  | .int .u8 n :: vs => match bytesOf vs with
    | some l => some (n :: l)
    | none => none
  | _ => none
/-- Bytes as a string. -/
def mbytes (P : Program) (m : M) (src dst : TypeId) (x : Value) : Option Value :=
  match P.underlying src, P.underlying dst, x with
  | some (.slice e), some .string, .slice none _ _ => match P.underlying e with
    | some (.int .u8) => some (.string .empty)
    | _ => none
  | some (.slice e), some .string, .slice (some ⟨r, off, none⟩) len _ => match P.underlying e with
    | some (.int .u8) => match mread m r off len with
      | some cs => match bytesOf cs with
        | some l => some (.string (strOfNums l))
        | none => none
      | none => none
    | _ => none
  | _, _, _ => none
def mconv (P : Program) (m : M) (src dst : TypeId) (x : Value) : Option Value :=
  match bslices.contains src with
  | true => mbytes P m src dst x
  | false => mconvert P src dst x
/-- What is made of one value, of two. -/
def with1 (T : Fr) (x : Operand) (m : M) (f : Value → Option Value) : Option (Value × M) :=
  match ev T x with
  | some v => match f v with
    | some r => fVal r fun r => some (r, m)
    | none => none
  | none => none
def with2 (T : Fr) (x y : Operand) (m : M) (f : Value → Value → Option Value) : Option (Value × M) :=
  match ev T x with
  | some v => match ev T y with
    | some u => match f v u with
      | some r => fVal r fun r => some (r, m)
      | none => none
    | none => none
  | none => none
def mpick : Value → Value → Value → Option Value
  | .bool true, a, _ => some a
  | .bool false, _, b => some b
  | _, _, _ => none
def opick (T : Fr) (m : M) (c a b : Operand) : Option (Value × M) :=
  match ev T c with
  | some c => match ev T a with
    | some a => match ev T b with
      | some b => match mpick c a b with
        | some v => some (v, m)
        | none => none
      | none => none
    | none => none
  | none => none
def oalloc (P : Program) (m : M) (t : TypeId) : Option (Value × M) :=
  match zeroOf P t with
  | some z => fNat m.length fun n => fList z.cells.toList fun cs => fList (m ++ [{ esz := 0, ex := true, ro := false, cells := cs }]) fun m' => some (.pointer (some ⟨n, 0, none⟩), m')
  | none => none
def vbox (m : M) (v : Value) : Option (Value × M) :=
  fNat m.length fun n => fList v.cells.toList fun cs => fList (m ++ [{ esz := 0, ex := true, ro := false, cells := cs }]) fun m' => some (.pointer (some ⟨n, 0, none⟩), m')
def obox (T : Fr) (m : M) (x : Operand) : Option (Value × M) :=
  match ev T x with
  | some v => vbox m v
  | none => none
def omove (T : Fr) (m : M) (x : Operand) : Option (Value × M) :=
  match ev T x with
  | some v => some (v, m)
  | none => none
def obuild (P : Program) (T : Fr) (m : M) (t : TypeId) (parts : List (Nat × Operand)) : Option (Value × M) :=
  match evParts T parts with
  | some ps => match mbuild P t ps with
    | some v => fVal v fun v => some (v, m)
    | none => none
  | none => none
def obuildSlice (P : Program) (T : Fr) (m : M) (t : TypeId) (len : Nat) (parts : List (Nat × Operand)) : Option (Value × M) :=
  match evParts T parts with
  | some ps => mbuildSlice P m t len ps
  | none => none
def ostore (P : Program) (base : Nat) (T : Fr) (m : M) (t : TypeId) (a x : Operand) : Option (Value × M) :=
  match ev T a with
  | some p => match ev T x with
    | some v => match mstore P base m t p v with
      | some m' => some (undef, m')
      | none => none
    | none => none
  | none => none
def mnil : Value → Option Value
  | .pointer (some a) => some (.pointer (some a))
  | .func (.func f) x y => some (.func (.func f) x y)
  | _ => none
def omakeFunc (T : Fr) (m : M) (fn : Fn) (first captured : List Operand) : Option (Value × M) :=
  match fn with
  | .func f => match evs T first with
    | some a => match evs T captured with
      | some b => some (.func (.func f) a.toArray b.toArray, m)
      | none => none
    | none => none
  | _ => none
def omakeSlice (P : Program) (T : Fr) (m : M) (t : TypeId) (l c : Operand) : Option (Value × M) :=
  match ev T l with
  | some l => match ev T c with
    | some c => mmakeSlice P m t l c
    | none => none
  | none => none
def evOpt (T : Fr) : Option Operand → Option (Option Value)
  | none => some none
  | some p => match ev T p with
    | some v => some (some v)
    | none => none
def oslice (P : Program) (T : Fr) (m : M) (t : TypeId) (x : Operand) (lo hi mx : Option Operand) : Option (Value × M) :=
  match ev T x with
  | some v => match evOpt T lo with
    | some lo => match evOpt T hi with
      | some hi => match evOpt T mx with
        | some mx => match mslice P m t v lo hi mx with
          | some r => fVal r fun r => some (r, m)
          | none => none
        | none => none
      | none => none
    | none => none
  | none => none
def mextract (i : Nat) : Value → Option Value
  | .tuple vs => vs[i]?
  | _ => none
def obuiltin (P : Program) (base : Nat) (m : M) (b : Builtin) (tys : List TypeId) (vs : List Value) : Option (Value × M) :=
  match b with
  | .len => match tys, vs with
    | t :: _, [x] => match mlen P t x with
      | some r => fVal r fun r => some (r, m)
      | none => none
    | _, _ => none
  | .append => match vs with
    | [s, x] => mappend P base m tys s x
    | _ => none
  | .copy => match vs with
    | [d, x] => mcopy P base m tys d x
    | _ => none
  | .cap => match tys, vs with
    | t :: _, [x] => match mcap P m t x with
      | some r => fVal r fun r => some (r, m)
      | none => none
    | _, _ => none
  | .clear => match tys, vs with
    | t :: _, [x] => mclear P base m t x
    | _, _ => none
  | .min => match vs with
    | x :: xs => match mfold mmin2 x xs with
      | some r => fVal r fun r => some (r, m)
      | none => none
    | _ => none
  | .max => match vs with
    | x :: xs => match mfold mmax2 x xs with
      | some r => fVal r fun r => some (r, m)
      | none => none
    | _ => none
  | _ => none
def ocall (P : Program) (base : Nat) (T : Fr) (m : M) (c : Call) : Option (Value × M) :=
  match c.callee with
  | .builtin b => match evs T c.args.toList with
    | some vs => obuiltin P base m b c.argTypes.toList vs
    | none => none
  | _ => none
/-- What an operation that is no call of a function comes to. -/
def mpure (E : Env) (base : Nat) (T : Fr) (m : M) : Op → Option (Value × M)
  | .move x => omove T m x
  | .assign x => omove T m x
  | .pick c a b => opick T m c a b
  | .alloc t => oalloc E.P m t
  | .box _ x => obox T m x
  | .build t parts => obuild E.P T m t parts.toList
  | .buildSlice t len parts => obuildSlice E.P T m t len parts.toList
  | .load t a => with1 T a m (mload E.P m t)
  | .store t a x => ostore E.P base T m t a x
  | .nilCheck x => with1 T x m mnil
  | .binOp op t x y _ => with2 T x y m (mbin E op t)
  | .unOp op _ x => with1 T x m (mun op)
  | .convert src dst x => with1 T x m (mconv E.P m src dst)
  | .makeFunc fn first captured => omakeFunc T m fn first.toList captured.toList
  | .makeSlice t l c => omakeSlice E.P T m t l c
  | .slice t x lo hi mx => oslice E.P T m t x lo hi mx
  | .fieldAddr s x f => with1 T x m fun v => mfieldAddr E.P s v f
  | .field t x f => with1 T x m fun v => mfield E.P t v f
  | .indexAddr t x i => with2 T x i m (mindexAddr E.P t)
  | .index t x i => with2 T x i m (mindex E.P t)
  | .extract x i => with1 T x m (mextract i)
  | .call c => ocall E.P base T m c
  | _ => none
/-- What function a call enters, with which arguments. -/
def mtarget (T : Fr) : Op → Option (FuncId × List Value)
  | .call c => match c.callee with
    | .value f => match ev T f, evs T c.args.toList with
      | some (.func (.func f) first captured), some vs => some (f, first.toList ++ vs ++ captured.toList)
      | _, _ => none
    | _ => none
  | _ => none
inductive ORes where
  | val (v : Value) (m : M)
  | pan (v : Value) (m : M)
def mop (E : Env) (call : CallF) (base : Nat) (T : Fr) (m : M) (op : Op) : Option ORes :=
  match mtarget T op with
  | some (f, vs) => match call base f vs m with
    | some (.ret v, m') => some (.val v m')
    | some (.pan v, m') => some (.pan v m')
    | none => none
  | none => match mpure E base T m op with
    | some (v, m') => some (.val v m')
    | none => none
def mwanted (ops : List Oper) (T : Fr) (o : Oper) : Option Bool :=
  match o.guard with
  | none => some true
  | some (j, want) => match (ops[j]?).bind (·.dst) with
    | none => some false
    | some d => match alook T.l d with
      | some (.bool b) => some (b == want)
      | some (.tuple ⟨[]⟩) => some false
      | _ => none
def mput (T : Fr) (dst : Option Tmp) (v : Value) : Fr :=
  match dst with
  | some d => match Nat.ble T.n d with
    | true => T
    | false => { T with l := (d, v) :: T.l }
  | none => T
/-- A region whose order is not drawn. -/
def mops (E : Env) (call : CallF) (base : Nat) (all : List Oper) : List Oper → Fr → M → Option (MExit × Fr × M)
  | [], T, m => some (.normal, T, m)
  | o :: os, T, m =>
    match mwanted all T o with
    | some true => match mop E call base T m o.op with
      | some (.val v m') => mops E call base all os (mput T o.dst v) m'
      | some (.pan v m') => some (.pan v, T, m')
      | none => none
    | some false => mops E call base all os (mput T o.dst undef) m
    | none => none
abbrev St := Fr × M
def mloop (body : St → Option (MExit × St)) : Nat → St → Option (MExit × St)
  | 0, _ => none
  | n + 1, s => match body s with
    | some (.normal, s') => mloop body n s'
    | r => r
/-- Operations that neither look into rows nor lay any. -/
def isV : Op → Bool
  | .move _ | .assign _ | .pick .. | .build .. | .nilCheck _ | .binOp .. | .unOp .. | .makeFunc .. | .fieldAddr .. | .field .. | .indexAddr .. | .index .. | .extract .. => true
  | .convert s _ _ => !bslices.contains s
  | .call { callee := .builtin .len, .. } | .call { callee := .builtin .min, .. } | .call { callee := .builtin .max, .. } => true
  | _ => false
def isAppend : Op → Bool
  | .call { callee := .builtin .append, .. } => true
  | _ => false
def isWriter : Op → Bool
  | .store .. => true
  | .call { callee := .builtin .append, .. } | .call { callee := .builtin .copy, .. } | .call { callee := .builtin .clear, .. } => true
  | .call { callee := .value (.func f), .. } => wcalls.contains f
  | _ => false
def isAlloc : Op → Bool
  | .alloc _ => true
  | _ => false
def isPlain (e : Edge) : Bool := match e.ground with
  | .textOnly _ | .gcOnly _ => false
  | _ => true
/-- For each operation the set of those that are sure to come before it. -/
def predsOf (acc : List Nat) (o : Oper) : Nat :=
  o.after.toList.foldl (fun s e => if isPlain e then s ||| (1 <<< e.on) ||| acc.getD e.on 0 else s) 0
def preds : List Oper → List Nat → List Nat
  | [], acc => acc
  | o :: os, acc => preds os (acc ++ [predsOf acc o])
def isOrdered (ps : List Nat) (i j : Nat) : Bool := if i < j then (ps.getD j 0).testBit i else (ps.getD i 0).testBit j
def tmpsOf : List Operand → List Tmp
  | [] => []
  | .tmp t :: xs => t :: tmpsOf xs
  | _ :: xs => tmpsOf xs
def guardTmp (ops : List Oper) (o : Oper) : List Tmp := match o.guard with
  | none => []
  | some (j, _) => match (ops[j]?).bind (·.dst) with
    | some d => [d]
    | none => []
/-- The temporaries that an operation reads. -/
def usesOf (ops : List Oper) (o : Oper) : List Tmp := tmpsOf o.op.operands.toList ++ guardTmp ops o
def namesOf (ops : List Oper) (o : Oper) : List Tmp := o.dst.toList ++ usesOf ops o
def isLoad : Op → Bool
  | .load .. => true
  | _ => false
/-- No writer stands between, and all before the first is without memory. -/
def between (ops : List Oper) (j i : Nat) : Bool := ops.zipIdx.all fun (o, k) => (!Nat.blt k j || isV o.op) && (!(Nat.blt j k && Nat.blt k i) || !isWriter o.op)
/-- A load at j ahead of an append at i: they need no order. -/
def xpair (ops : List Oper) (i j : Nat) (o o' : Oper) : Bool := xloads && (isAppend o.op && (isLoad o'.op && (Nat.blt j i && between ops j i)))
/-- Does an operation, at its place, write into rows that others may look into? (An append that is not sure to come before or behind all others must not.) -/
def isW (ops : List Oper) (ps : List Nat) (i : Nat) (o : Oper) : Bool :=
  isWriter o.op && (!isAppend o.op || ops.zipIdx.all fun (o', j) => j == i || isV o'.op || isOrdered ps i j || (isAlloc o'.op && Nat.blt i j) || xpair ops i j o o')
def regionOK (ops : List Oper) : Bool :=
  let ps := preds ops []
  let z := ops.zipIdx
  (z.all fun (o, i) => o.after.toList.all fun e => !isPlain e || e.on < i) &&
  (z.all fun (o, i) => match o.dst with
    | none => true
    | some d => z.all fun (o', j) => j == i || !(namesOf ops o').contains d || isOrdered ps i j) &&
  (z.all fun (o, i) => !isW ops ps i o || (o.guard.isNone && z.all fun (o', j) => j == i || isV o'.op || isOrdered ps i j || (isAlloc o'.op && Nat.blt i j) || xpair ops i j o o'))
/-- The operations that write, as a set. -/
def wMask (ops : List Oper) : Nat :=
  let ps := preds ops []
  ops.zipIdx.foldl (fun s (o, i) => if isW ops ps i o then s ||| (1 <<< i) else s) 0
/-- The loads and appends that need no order, and are looked at when they run. -/
def isX (ops : List Oper) (ps : List Nat) (k : Nat) (o : Oper) : Bool :=
  (ops.zipIdx.any fun (o', i) => xpair ops i k o' o && !isOrdered ps i k) || (ops.zipIdx.any fun (o', j) => xpair ops k j o o' && !isOrdered ps k j)
def xMask (ops : List Oper) : Nat := match xloads with
  | false => 0
  | true => ops.zipIdx.foldl (fun s (o, i) => if isX ops (preds ops []) i o then s ||| (1 <<< i) else s) 0
/-- Does a pointer point into a row whose room is known? -/
def mexact (m : M) (v : Value) : Bool := match v with
  | .pointer (some ⟨r, _, none⟩) => match m[r]? with
    | some row => row.ex
    | none => false
  | _ => false
/-- Has a slice no room behind it? -/
def mfull (vs : List Value) : Bool := match vs with
  | .slice none 0 0 :: _ => true
  | .slice (some ⟨_, _, none⟩) l c :: _ => Nat.beq l c
  | _ => false
def mchk (T : Fr) (m : M) (op : Op) : Bool := match op with
  | .load _ a => match ev T a with
    | some v => mexact m v
    | none => false
  | .call c => match evs T c.args.toList with
    | some vs => mfull vs
    | none => false
  | _ => false
/-- An operation that must not write below what there is. -/
def mopB (E : Env) (call : CallF) (T : Fr) (m : M) (op : Op) : Option ORes :=
  match mtarget T op with
  | some (f, vs) => match call m.length f vs m with
    | some (.ret v, m') => fList (m ++ m'.drop m.length) fun m' => some (.val v m')
    | _ => none
  | none => match mpure E m.length T m op with
    | some (v, m') => fList (m ++ m'.drop m.length) fun m' => some (.val v m')
    | none => none
def mdops (E : Env) (call : CallF) (base : Nat) (all : List Oper) (ws : Nat) : Nat → List Oper → Fr → M → Option (Fr × M)
  | _, [], T, m => some (T, m)
  | k, o :: os, T, m =>
    match mwanted all T o with
    | some true => match (if (xMask all).testBit k && !mchk T m o.op then none else if ws.testBit k then mop E call base T m o.op else if isV o.op then mop E call base T m o.op else mopB E call T m o.op) with
      | some (.val v m') => mdops E call base all ws (k + 1) os (mput T o.dst v) m'
      | _ => none
    | some false => mdops E call base all ws (k + 1) os (mput T o.dst undef) m
    | none => none
def mregion (E : Env) (call : CallF) (base : Nat) (ops : List Oper) (draw : Bool) (T : Fr) (m : M) : Option (MExit × Fr × M) :=
  if draw then
    if regionOK ops then
      match mdops E call base ops (wMask ops) 0 ops T m with
      | some (T', m') => some (.normal, T', m')
      | none => none
    else none
  else mops E call base ops ops T m
def mcode (E : Env) (call : CallF) (live : Nat → Option (List Nat)) (fuel : Nat) (base : Nat) : Code → St → Option (MExit × St)
  | .skip, s => some (.normal, s)
  | .region id ops draw, (T, m) => match mregion E call base ops.toList draw T m with
    | some (e, T', m') => fList (T'.trim (live id)).l fun l => some (e, { n := T'.n, l := l }, m')
    | none => none
  | .seq a b, s => match mcode E call live fuel base a s with
    | some (.normal, s') => mcode E call live fuel base b s'
    | r => r
  | .cond c a b, (T, m) => match ev T c with
    | some (.bool true) => mcode E call live fuel base a (T, m)
    | some (.bool false) => mcode E call live fuel base b (T, m)
    | _ => none
  | .block id b, s => match mcode E call live fuel base b s with
    | some (.exit id', s') => if id' = id then some (.normal, s') else some (.exit id', s')
    | r => r
  | .loop b, s => mloop (fun s => mcode E call live fuel base b s) fuel s
  | .exit id, s => some (.exit id, s)
  | .label _, s => some (.normal, s)
  | .ret, s => some (.ret, s)
  | _, _ => none
def mresult (P : Program) (T : Fr) (m : M) : ResultVar → Option Value
  | .tmp t => alook T.l t
  | .cell a t => match alook T.l a with
    | some p => mload P m t p
    | none => none
def mresults (P : Program) (T : Fr) (m : M) : List ResultVar → Option (List Value)
  | [] => some []
  | r :: rs => match mresult P T m r with
    | none => none
    | some v => match mresults P T m rs with
      | none => none
      | some vs => some (v :: vs)
def frame : Nat → List Value → List (Nat × Value)
  | _, [] => []
  | k, v :: vs => (k, v) :: frame (k + 1) vs
def mbody (E : Env) (call : CallF) (live : Nat → Option (List Nat)) (fuel : Nat) (base : Nat) (fn : Func) (args : List Value) (m : M) : Option (Ret × M) :=
  match fn.body with
  | none => none
  | some c =>
    match mcode E call live fuel base c (fList (frame 0 args) fun l => { n := max args.length fn.ntmps, l := l }, m) with
    | some (.normal, T, m') | some (.ret, T, m') => match mresults E.P T m' fn.results.toList with
      | some [v] => fVal v fun v => some (.ret v, m')
      | some vs => some (.ret (.tuple vs.toArray), m')
      | none => none
    | some (.pan v, _, m') => some (.pan v, m')
    | _ => none
/-- A value without addresses. -/
def vflat1 : Value → Bool
  | .agg cs => cs.toList.all vsimple
  | v => vsimple v
def vflat : Value → Bool
  | .tuple cs => cs.toList.all vflat1
  | v => vflat1 v
end Go.AM
namespace Go.AM
open Go
structure Loc where
  b : Nat
  base : Nat
  size : Nat
  esz : Nat
  ex : Bool
abbrev Map := Nat → Option Loc
inductive VRel (ρ : Map) : Value → Value → Prop where
  | bool (b : Bool) : VRel ρ (.bool b) (.bool b)
  | int (k : IntKind) (n : Int) : VRel ρ (.int k n) (.int k n)
  | float (k : FloatKind) (n : Nat) : VRel ρ (.float k n) (.float k n)
  | string (s : ByteArray) : VRel ρ (.string s) (.string s)
  | ptrNil : VRel ρ (.pointer none) (.pointer none)
  | ptr {r off : Nat} {l : Loc} (h : ρ r = some l) : VRel ρ (.pointer (some ⟨r, off, none⟩)) (.pointer (some ⟨l.b, l.base + off, none⟩))
  | gptr {g off : Nat} : VRel ρ (.pointer (some ⟨g, off, some 0⟩)) (.pointer (some ⟨g, off, none⟩))
  | sliceNil : VRel ρ (.slice none 0 0) (.slice none 0 0)
  | slice {r off len cap off' cap' : Nat} {l : Loc} (h : ρ r = some l) (h1 : len ≤ cap) (h2 : cap ≤ cap') (h3 : l.ex = true → cap' = cap)
      (h4 : cap' = 0 ∨ off' = l.base + off) (h5 : off' + cap' * l.esz ≤ l.size) :
      VRel ρ (.slice (some ⟨r, off, none⟩) len cap) (.slice (some ⟨l.b, off', none⟩) len cap')
  /-- A slice whose room is its length. -/
  | sliceX {r off len off' : Nat} {l : Loc} (h : ρ r = some l) (h4 : len = 0 ∨ off' = l.base + off) (h5 : off' + len * l.esz ≤ l.size) :
      VRel ρ (.slice (some ⟨r, off, some 0⟩) len len) (.slice (some ⟨l.b, off', none⟩) len len)
  /-- A slice without room, wherever it lies. -/
  | sliceE {a : Addr} : VRel ρ (.slice (some ⟨0, 0, some 1⟩) 0 0) (.slice (some a) 0 0)
  /-- A part of an array, to be read alone. -/
  | sliceW {r off len cap : Nat} {l : Loc} (h : ρ r = some l) : VRel ρ (.slice (some ⟨r, off, some 2⟩) len cap) (.slice (some ⟨l.b, l.base + off, none⟩) len cap)
  | mapNil : VRel ρ (.map none) (.map none)
  | nilFunc : VRel ρ .nilFunc .nilFunc
  | nilIface : VRel ρ .nilIface .nilIface
  | func (f : FuncId) {x y x' y' : Array Value} (hx : x.size = x'.size) (hx' : ∀ (i : Nat) u v, x[i]? = some u → x'[i]? = some v → VRel ρ u v)
      (hy : y.size = y'.size) (hy' : ∀ (i : Nat) u v, y[i]? = some u → y'[i]? = some v → VRel ρ u v) :
      VRel ρ (.func (.func f) x y) (.func (.func f) x' y')
  | agg {x x' : Array Value} (hx : x.size = x'.size) (hx' : ∀ (i : Nat) u v, x[i]? = some u → x'[i]? = some v → VRel ρ u v) : VRel ρ (.agg x) (.agg x')
  | tuple {x x' : Array Value} (hx : x.size = x'.size) (hx' : ∀ (i : Nat) u v, x[i]? = some u → x'[i]? = some v → VRel ρ u v) : VRel ρ (.tuple x) (.tuple x')
def Map.le (ρ ρ' : Map) : Prop := ∀ r l, ρ r = some l → ρ' r = some l
theorem Map.le_refl (ρ : Map) : ρ.le ρ := fun _ _ h => h
theorem Map.le_trans {a b c : Map} (h : a.le b) (k : b.le c) : a.le c := fun r l x => k r l (h r l x)
theorem VRel.mono {ρ ρ' : Map} (hle : ρ.le ρ') {v v' : Value} (h : VRel ρ v v') : VRel ρ' v v' := by
  induction h with
  | bool b => exact .bool b
  | int k n => exact .int k n
  | float k n => exact .float k n
  | string s => exact .string s
  | ptrNil => exact .ptrNil
  | ptr h => exact .ptr (hle _ _ h)
  | gptr => exact .gptr
  | sliceNil => exact .sliceNil
  | slice h h1 h2 h3 h4 h5 => exact .slice (hle _ _ h) h1 h2 h3 h4 h5
  | sliceX h h4 h5 => exact .sliceX (hle _ _ h) h4 h5
  | sliceE => exact .sliceE
  | sliceW h => exact .sliceW (hle _ _ h)
  | mapNil => exact .mapNil
  | nilFunc => exact .nilFunc
  | nilIface => exact .nilIface
  | func f hx _ hy _ ihx ihy => exact .func f hx ihx hy ihy
  | agg hx _ ih => exact .agg hx ih
  | tuple hx _ ih => exact .tuple hx ih
/-- Two lists, element by element. -/
def LRel (ρ : Map) (xs ys : List Value) : Prop := xs.length = ys.length ∧ ∀ (i : Nat) u v, xs[i]? = some u → ys[i]? = some v → VRel ρ u v
theorem LRel.mono {ρ ρ' : Map} (hle : ρ.le ρ') {xs ys : List Value} (h : LRel ρ xs ys) : LRel ρ' xs ys := ⟨h.1, fun i u v a b => (h.2 i u v a b).mono hle⟩
theorem LRel.nil (ρ : Map) : LRel ρ [] [] := ⟨rfl, fun i u v h => by simp at h⟩
theorem LRel.cons {ρ : Map} {x y : Value} {xs ys : List Value} (h : VRel ρ x y) (hs : LRel ρ xs ys) : LRel ρ (x :: xs) (y :: ys) := by
  refine ⟨by simp [hs.1], fun i u v a b => ?_⟩
  cases i with
  | zero => simp at a b; subst a b; exact h
  | succ i => exact hs.2 i u v (by simpa using a) (by simpa using b)
theorem LRel.get {ρ : Map} {xs ys : List Value} (h : LRel ρ xs ys) {i : Nat} {u : Value} (hu : xs[i]? = some u) : ∃ v, ys[i]? = some v ∧ VRel ρ u v := by
  have hi : i < xs.length := (List.getElem?_eq_some_iff.1 hu).1
  have hy : i < ys.length := h.1 ▸ hi
  exact ⟨ys[i], List.getElem?_eq_getElem hy, h.2 i u _ hu (List.getElem?_eq_getElem hy)⟩
theorem LRel.append {ρ : Map} {xs ys xs' ys' : List Value} (h : LRel ρ xs ys) (h' : LRel ρ xs' ys') : LRel ρ (xs ++ xs') (ys ++ ys') := by
  refine ⟨by simp [h.1, h'.1], fun i u v a b => ?_⟩
  by_cases hi : i < xs.length
  · rw [List.getElem?_append_left hi] at a
    rw [List.getElem?_append_left (h.1 ▸ hi)] at b
    exact h.2 i u v a b
  · rw [List.getElem?_append_right (by omega)] at a
    rw [List.getElem?_append_right (by have := h.1; omega), ← h.1] at b
    exact h'.2 _ u v a b
theorem LRel.take {ρ : Map} {xs ys : List Value} (h : LRel ρ xs ys) (n : Nat) : LRel ρ (xs.take n) (ys.take n) := by
  refine ⟨by simp [h.1], fun i u v a b => ?_⟩
  rw [List.getElem?_take] at a b
  split at a
  · rename_i hlt; rw [if_pos hlt] at b; exact h.2 i u v a b
  · simp at a
theorem LRel.drop {ρ : Map} {xs ys : List Value} (h : LRel ρ xs ys) (n : Nat) : LRel ρ (xs.drop n) (ys.drop n) := by
  refine ⟨by simp [h.1], fun i u v a b => ?_⟩
  rw [List.getElem?_drop] at a b
  exact h.2 _ u v a b
theorem LRel.set {ρ : Map} {xs ys : List Value} (h : LRel ρ xs ys) (n : Nat) {x y : Value} (hv : VRel ρ x y) : LRel ρ (xs.set n x) (ys.set n y) := by
  refine ⟨by simp [h.1], fun i u v a b => ?_⟩
  rw [List.getElem?_set] at a b
  split at a
  · rename_i hn
    rw [if_pos hn] at b
    split at a
    · split at b
      · simp at a b; subst a b; exact hv
      · simp at b
    · simp at a
  · rename_i hn
    rw [if_neg hn] at b
    exact h.2 i u v a b
theorem vrel_agg {ρ : Map} {x x' : List Value} (h : LRel ρ x x') : VRel ρ (.agg x.toArray) (.agg x'.toArray) :=
  .agg (by simpa using h.1) (fun i u v a b => h.2 i u v (by simpa using a) (by simpa using b))
theorem vrel_tuple {ρ : Map} {x x' : List Value} (h : LRel ρ x x') : VRel ρ (.tuple x.toArray) (.tuple x'.toArray) :=
  .tuple (by simpa using h.1) (fun i u v a b => h.2 i u v (by simpa using a) (by simpa using b))
theorem lrel_of_array {ρ : Map} {x x' : Array Value} (hx : x.size = x'.size) (hx' : ∀ (i : Nat) u v, x[i]? = some u → x'[i]? = some v → VRel ρ u v) : LRel ρ x.toList x'.toList :=
  ⟨by simpa using hx, fun i u v a b => hx' i u v (by simpa using a) (by simpa using b)⟩
theorem vsimple_rel {ρ : Map} {v : Value} (h : vsimple v = true) : VRel ρ v v := by
  unfold vsimple at h
  split at h
  · exact .bool _
  · exact .int _ _
  · exact .float _ _
  · exact .string _
  · exact .ptrNil
  · exact .sliceNil
  · exact .mapNil
  · exact .nilFunc
  · exact .nilIface
  · simp at h
theorem lrel_simple {ρ : Map} {xs : List Value} (h : xs.all vsimple = true) : LRel ρ xs xs :=
  ⟨rfl, fun i u v a b => by
    rw [a] at b; simp at b; subst b
    exact vsimple_rel (by rw [List.all_eq_true] at h; exact h _ (List.mem_of_getElem? a))⟩
theorem vconst_rel {ρ : Map} {v : Value} (h : vconst v = true) : VRel ρ v v := by
  unfold vconst at h
  rw [Bool.or_eq_true] at h
  rcases h with h | h
  · exact vsimple_rel h
  · split at h
    · rename_i cs
      have := lrel_simple (ρ := ρ) h
      exact .agg rfl (fun i u v a b => this.2 i u v (by simpa using a) (by simpa using b))
    · rename_i cs
      have := lrel_simple (ρ := ρ) h
      exact .tuple rfl (fun i u v a b => this.2 i u v (by simpa using a) (by simpa using b))
    · simp at h
theorem vrel_undef (ρ : Map) : VRel ρ undef undef := .tuple rfl (fun i u v a => by simp at a)
theorem VRel.oneCell {ρ : Map} {v v' : Value} (h : VRel ρ v v') : v'.oneCell' = v.oneCell' := by
  cases h <;> rfl
theorem VRel.cells {ρ : Map} {v v' : Value} (h : VRel ρ v v') : LRel ρ v.cells.toList v'.cells.toList := by
  cases h with
  | agg hx hx' => exact lrel_of_array hx hx'
  | _ => exact LRel.cons (by constructor <;> assumption) (LRel.nil _)
theorem VRel.cells_size {ρ : Map} {v v' : Value} (h : VRel ρ v v') : v'.cells.size = v.cells.size := by
  have := h.cells.1
  simpa using this.symm
theorem LRel.oneCells {ρ : Map} {xs ys : List Value} (h : LRel ρ xs ys) (hx : xs.all (·.oneCell') = true) : ∀ v ∈ ys, v.oneCell' = true := by
  intro v hv
  obtain ⟨i, hi, rfl⟩ := List.mem_iff_getElem.1 hv
  have hix : i < xs.length := h.1 ▸ hi
  have := h.2 i xs[i] ys[i] (List.getElem?_eq_getElem hix) (List.getElem?_eq_getElem hi)
  rw [this.oneCell]
  rw [List.all_eq_true] at hx
  exact hx _ (List.getElem_mem hix)
def GWorld (w : World) : Prop := ∀ g l, glook gtabs g = some l → ∃ C T fz, w.heap[g]? = some (.cells C T fz) ∧ C.toList = l
def GFree (ρ : Map) : Prop := ∀ g l, glook gtabs g = some l → ∀ r k, ρ r = some k → k.b ≠ g
/-- What the laid variables hold; none of our rows lies there. -/
structure Glob (ρ : Map) (w : World) : Prop where
  here : GWorld w
  free : GFree ρ
theorem Glob.of {ρ ρ' : Map} {w w' : World} (h : Glob ρ w) (h1 : ∀ g, (∀ r l, ρ r = some l → l.b ≠ g) → g < w.heap.size → w'.heap[g]? = w.heap[g]?) (h2 : ∀ g, (∀ r l, ρ r = some l → l.b ≠ g) → g < w.heap.size → ∀ r l, ρ' r = some l → l.b ≠ g) : Glob ρ' w' := by
  obtain ⟨a, b⟩ := h
  refine ⟨fun g l hg => ?_, fun g l hg => ?_⟩
  · obtain ⟨C, T, fz, c, d⟩ := a g l hg
    exact ⟨C, T, fz, by rw [h1 g (b g l hg) (Array.getElem?_eq_some_iff.1 c).1]; exact c, d⟩
  · obtain ⟨C, T, fz, c, d⟩ := a g l hg
    exact h2 g (b g l hg) (Array.getElem?_eq_some_iff.1 c).1
structure Rel (ρ : Map) (m : M) (w : World) : Prop where
  dom : ∀ r l, ρ r = some l → r < m.length
  row : ∀ r l row, ρ r = some l → m[r]? = some row → l.esz = row.esz ∧ l.ex = row.ex ∧
    ∃ C T fz, w.heap[l.b]? = some (.cells C T fz) ∧ C.size = l.size ∧ l.base + row.cells.length ≤ l.size ∧ (row.ro = false → fz = (0, 0)) ∧
      ∀ j v, row.cells[j]? = some v → ∃ v', C[l.base + j]? = some v' ∧ VRel ρ v v'
  sep : ∀ r r' l l' row row', ρ r = some l → ρ r' = some l' → r ≠ r' → m[r]? = some row → m[r']? = some row' → row.ro = false → row.cells ≠ [] → row'.cells ≠ [] → l.b ≠ l'.b
  gl : Glob ρ w
structure Ext (base : Nat) (ρ ρ' : Map) (w w' : World) : Prop where
  le : ρ.le ρ'
  new : ∀ r l, ρ' r = some l → ρ r = some l ∨ (base ≤ r ∧ (w.heap.size ≤ l.b ∨ ∃ r0 l0, ρ r0 = some l0 ∧ base ≤ r0 ∧ l0.b = l.b))
  size : w.heap.size ≤ w'.heap.size
  os : w'.os = w.os
  tape : w'.tape = w.tape
  output : w'.output = w.output
  frame : ∀ b, b < w.heap.size → (∀ r l, ρ r = some l → base ≤ r → l.b ≠ b) → w'.heap[b]? = w.heap[b]?
theorem Ext.refl (base : Nat) (ρ : Map) (w : World) : Ext base ρ ρ w w :=
  ⟨Map.le_refl _, fun _ _ h => .inl h, Nat.le_refl _, rfl, rfl, rfl, fun _ _ _ => rfl⟩
theorem Glob.ext {base : Nat} {ρ ρ' : Map} {w w' : World} (h : Glob ρ w) (e : Ext base ρ ρ' w w') : Glob ρ' w' := by
  refine h.of (fun g hf hs => e.frame g hs fun r l hr _ => hf r l hr) (fun g hf hs r l hr => ?_)
  rcases e.new r l hr with h1 | ⟨_, h1 | ⟨r0, l0, h1, _, h2⟩⟩
  · exact hf r l h1
  · omega
  · rw [← h2]; exact hf r0 l0 h1
theorem Glob.sub {ρ ρ' : Map} {w : World} (h : Glob ρ w) (hle : ρ'.le ρ) : Glob ρ' w := h.of (fun _ _ _ => rfl) (fun _ hf _ r l hr => hf r l (hle r l hr))
theorem Ext.trans {base : Nat} {ρ ρ1 ρ2 : Map} {w w1 w2 : World} (h : Ext base ρ ρ1 w w1) (k : Ext base ρ1 ρ2 w1 w2) : Ext base ρ ρ2 w w2 := by
  refine ⟨Map.le_trans h.le k.le, ?_, Nat.le_trans h.size k.size, k.os.trans h.os, k.tape.trans h.tape, k.output.trans h.output, ?_⟩
  · intro r l hr
    rcases k.new r l hr with h1 | ⟨hbr, h1 | ⟨r0, l0, h1, hb, he⟩⟩
    · exact h.new r l h1
    · exact .inr ⟨hbr, .inl (Nat.le_trans h.size h1)⟩
    · rcases h.new r0 l0 h1 with h2 | ⟨_, h2 | ⟨r1, l1, h2, hb2, he2⟩⟩
      · exact .inr ⟨hbr, .inr ⟨r0, l0, h2, hb, he⟩⟩
      · exact .inr ⟨hbr, .inl (he ▸ h2)⟩
      · exact .inr ⟨hbr, .inr ⟨r1, l1, h2, hb2, he2.trans he⟩⟩
  · intro b hb hf
    rw [k.frame b (Nat.lt_of_lt_of_le hb h.size) ?_, h.frame b hb hf]
    intro r l hr hbr e
    rcases h.new r l hr with h1 | ⟨_, h1 | ⟨r0, l0, h1, hb2, he⟩⟩
    · exact hf r l h1 hbr e
    · omega
    · exact hf r0 l0 h1 hb2 (he.trans e)
theorem Rel.drew {ρ : Map} {m : M} {w : World} (h : Rel ρ m w) : Rel ρ m w.drew := ⟨h.dom, h.row, h.sep, h.gl.of (fun _ _ _ => rfl) (fun _ hf _ => hf)⟩
theorem Ext.drew {base : Nat} {ρ : Map} {w : World} : Ext base ρ ρ w w.drew :=
  ⟨Map.le_refl _, fun _ _ h => .inl h, Nat.le_refl _, rfl, rfl, rfl, fun _ _ _ => rfl⟩
/-- What a read of cells gives. -/
theorem Rel.read {ρ : Map} {m : M} {w : World} (h : Rel ρ m w) {r off k : Nat} {l : Loc} (hr : ρ r = some l) {cs : List Value} (hc : mread m r off k = some cs) :
    ∃ cs', LRel ρ cs cs' ∧ cs'.length = k ∧ ∀ j v, cs'[j]? = some v → w.cell? (Addr.add ⟨l.b, l.base + off, none⟩ j) = some v := by
  unfold mread at hc
  split at hc
  · simp at hc
  · rename_i row hrow
    split at hc
    · rename_i hle
      simp at hc
      obtain ⟨_, _, C, T, fz, hh, hs, hlen, _, hcell⟩ := h.row r l row hr hrow
      have hCl : l.base + off + k ≤ C.toList.length := by simp; omega
      refine ⟨(C.toList.drop (l.base + off)).take k, ?_, by simp; omega, ?_⟩
      · subst hc
        refine ⟨by simp; omega, fun i u v a b => ?_⟩
        rw [List.getElem?_take] at a b
        split at a
        · rename_i hi
          rw [if_pos hi] at b
          rw [List.getElem?_drop] at a b
          obtain ⟨v', hv', hrel⟩ := hcell _ _ a
          rw [Array.getElem?_toList, show l.base + off + i = l.base + (off + i) by omega, hv'] at b
          simp at b; subst b; exact hrel
        · simp at a
      · intro j v hj
        rw [List.getElem?_take] at hj
        split at hj
        · rw [List.getElem?_drop, Array.getElem?_toList] at hj
          have : (Addr.add ⟨l.b, l.base + off, none⟩ j) = ⟨l.b, l.base + off + j, none⟩ := by unfold Addr.add; split <;> simp_all
          rw [this]
          simp [World.cell?, hh, hj]
        · simp at hj
    · simp at hc
theorem mcell_read {m : M} {r off : Nat} {v : Value} (h : mcell m r off = some v) : mread m r off 1 = some [v] := by
  unfold mcell at h
  unfold mread
  split at h
  · simp at h
  · rename_i row hrow
    have hlt : off < row.cells.length := (List.getElem?_eq_some_iff.1 h).1
    rw [if_pos (by omega)]
    congr 1
    apply List.ext_getElem?
    intro i
    rw [List.getElem?_take]
    cases i with
    | zero => simp [h]
    | succ i => simp
theorem Rel.cell {ρ : Map} {m : M} {w : World} (h : Rel ρ m w) {r off : Nat} {l : Loc} (hr : ρ r = some l) {v : Value} (hc : mcell m r off = some v) :
    ∃ v', w.cell? ⟨l.b, l.base + off, none⟩ = some v' ∧ VRel ρ v v' := by
  obtain ⟨cs', hl, hk, hcell⟩ := h.read hr (mcell_read hc)
  match cs', hk with
  | [c], _ =>
    refine ⟨c, ?_, hl.2 0 v c rfl rfl⟩
    have := hcell 0 c rfl
    simpa [Addr.add] using this
theorem splice_get_in {cs vs : List Value} {off j : Nat} (h : off + vs.length ≤ cs.length) (hj : j < vs.length) : (splice cs off vs)[off + j]? = vs[j]? := by
  unfold splice
  rw [List.append_assoc, List.getElem?_append_right (by simp; omega), List.getElem?_append_left (by simp; omega)]
  congr 1
  simp; omega
theorem splice_get_out {cs vs : List Value} {off j : Nat} (h : off + vs.length ≤ cs.length) (hj : j < off ∨ off + vs.length ≤ j) : (splice cs off vs)[j]? = cs[j]? := by
  unfold splice
  rcases hj with hj | hj
  · rw [List.append_assoc, List.getElem?_append_left (by simp; omega), List.getElem?_take, if_pos hj]
  · rw [List.getElem?_append_right (by simp; omega), List.getElem?_drop]
    congr 1
    simp; omega
theorem splice_length {cs vs : List Value} {off : Nat} (h : off + vs.length ≤ cs.length) : (splice cs off vs).length = cs.length := by
  unfold splice; simp; omega
theorem mwrite_some {base : Nat} {m : M} {r off : Nat} {vs : List Value} {m' : M} (h : mwrite base m r off vs = some m') :
    base ≤ r ∧ ∃ row, m[r]? = some row ∧ row.ro = false ∧ off + vs.length ≤ row.cells.length ∧ vs.all (·.oneCell') = true ∧ m' = m.set r { row with cells := splice row.cells off vs } := by
  unfold mwrite at h
  simp only [fList_eq] at h
  split at h
  · simp at h
  · rename_i hb
    split at h
    · simp at h
    · rename_i row hrow
      split at h
      · simp at h
      · rename_i hro
        split at h
        · rename_i hle
          split at h
          · rename_i hone
            exact ⟨by omega, row, hrow, by simpa using hro, hle, hone, by simpa using h.symm⟩
          · simp at h
        · simp at h
theorem getElem?_set_row {m : M} {r : Nat} {row : Row} (h : r < m.length) (k : Nat) : (m.set r row)[k]? = if k = r then some row else m[k]? := by
  rw [List.getElem?_set]
  by_cases e : r = k
  · subst e; simp [h]
  · simp [e, Ne.symm e]
theorem Rel.write {P : Program} {ρ : Map} {m : M} {w : World} (h : Rel ρ m w) {base r off : Nat} {l : Loc} (hr : ρ r = some l) {vs vs' : List Value} {m' : M}
    (hw : mwrite base m r off vs = some m') (hv : LRel ρ vs vs') :
    ∃ w', (storeCells ⟨l.b, l.base + off, none⟩ vs').run P w = .ok () w' ∧ Rel ρ m' w' ∧ Ext base ρ ρ w w' := by
  obtain ⟨hb, row, hrow, hro, hle, hone, rfl⟩ := mwrite_some hw
  obtain ⟨he, hx, C, T, fz, hh, hs, hlen, hfz, hcell⟩ := h.row r l row hr hrow
  obtain rfl := hfz hro
  have hvl : vs.length = vs'.length := hv.1
  have hrl : r < m.length := h.dom r l hr
  have hst := run_storeCells_at P l.b (l.base + off) T vs' 0 C w hh (by omega) (hv.oneCells hone)
  simp only [Nat.add_zero] at hst
  generalize hC' : (C.toList.take (l.base + off) ++ vs' ++ C.toList.drop (l.base + off + vs'.length)).toArray = C' at hst
  have hC's : C'.toList = splice C.toList (l.base + off) vs' := by rw [← hC']; rfl
  have hCle : l.base + off + vs'.length ≤ C.toList.length := by simp; omega
  have hsize : C'.size = C.size := by
    have := splice_length hCle
    rw [← hC's] at this
    simpa using this
  refine ⟨_, hst, ⟨?_, ?_, ?_, h.gl.of (fun _ hf _ => setRow_other w _ _ _ (Ne.symm (hf r l hr))) (fun _ hf _ => hf)⟩, ⟨Map.le_refl _, fun _ _ x => .inl x, by simp, rfl, rfl, rfl, ?_⟩⟩
  · intro r' l' h'; simpa using h.dom r' l' h'
  · intro r' l' row' hr' hrow'
    rw [getElem?_set_row hrl] at hrow'
    by_cases e : r' = r
    · subst e
      rw [if_pos rfl] at hrow'
      simp only [Option.some.injEq] at hrow'
      subst hrow'
      rw [hr] at hr'
      simp only [Option.some.injEq] at hr'
      subst hr'
      refine ⟨he, hx, C', T, (0, 0), setRow_heap w _ C C' T (0, 0) hh, by rw [hsize]; exact hs, by simp only [splice_length hle]; exact hlen, fun _ => rfl, ?_⟩
      intro j v hj
      by_cases hin : off ≤ j ∧ j < off + vs.length
      · obtain ⟨j', rfl⟩ : ∃ j', j = off + j' := ⟨j - off, by omega⟩
        rw [splice_get_in hle (by omega)] at hj
        obtain ⟨v', hv', hrel⟩ := hv.get hj
        refine ⟨v', ?_, hrel⟩
        rw [← Array.getElem?_toList, hC's, show l.base + (off + j') = l.base + off + j' by omega, splice_get_in hCle (by omega)]
        exact hv'
      · rw [splice_get_out hle (by omega)] at hj
        obtain ⟨v', hv', hrel⟩ := hcell j v hj
        refine ⟨v', ?_, hrel⟩
        rw [← Array.getElem?_toList, hC's, splice_get_out hCle (by omega), Array.getElem?_toList]
        exact hv'
    · rw [if_neg e] at hrow'
      obtain ⟨he', hx', C2, T2, fz2, hh2, hs2, hlen2, hfz2, hcell2⟩ := h.row r' l' row' hr' hrow'
      by_cases hb2 : l'.b = l.b
      · -- the same block: then one of the rows is empty
        have hemp : row'.cells = [] ∨ row.cells = [] := by
          rcases Classical.em (row'.cells = []) with h1 | h1
          · exact .inl h1
          · rcases Classical.em (row.cells = []) with h2 | h2
            · exact .inr h2
            · exact absurd hb2.symm (h.sep r r' l l' row row' hr hr' (Ne.symm e) hrow hrow' hro h2 h1)
        rw [hb2] at hh2
        rw [hh] at hh2
        simp only [Option.some.injEq, Obj.cells.injEq] at hh2
        obtain ⟨rfl, rfl, rfl⟩ := hh2
        refine ⟨he', hx', C', T, (0, 0), by rw [hb2]; exact setRow_heap w _ C C' T (0, 0) hh, by rw [hsize]; exact hs2, hlen2, fun _ => rfl, ?_⟩
        intro j v hj
        rcases hemp with h1 | h1
        · simp [h1] at hj
        · have : vs = [] := by
            have hz : row.cells.length = 0 := by rw [h1]; rfl
            exact List.eq_nil_of_length_eq_zero (by omega)
          subst this
          have : vs' = [] := by simpa using hvl.symm
          subst this
          have : C'.toList = C.toList := by rw [hC's]; simp [splice]
          have : C' = C := by
            apply Array.ext'; exact this
          rw [this]
          exact hcell2 j v hj
      · exact ⟨he', hx', C2, T2, fz2, by rw [setRow_other w _ _ _ hb2]; exact hh2, hs2, hlen2, hfz2, hcell2⟩
  · intro r1 r2 l1 l2 row1 row2 h1 h2 hne hr1 hr2 hro1 hn1 hn2
    rw [getElem?_set_row hrl] at hr1 hr2
    have hnn : splice row.cells off vs ≠ [] → row.cells ≠ [] := by
      intro a b
      apply a
      have : (splice row.cells off vs).length = 0 := by rw [splice_length hle, b]; rfl
      exact List.eq_nil_of_length_eq_zero this
    have hrow1 : ∃ row1', m[r1]? = some row1' ∧ row1'.ro = false ∧ row1'.cells ≠ [] := by
      by_cases e1 : r1 = r
      · subst e1
        rw [if_pos rfl] at hr1
        simp only [Option.some.injEq] at hr1
        subst hr1
        exact ⟨row, hrow, hro, hnn hn1⟩
      · rw [if_neg e1] at hr1
        exact ⟨row1, hr1, hro1, hn1⟩
    have hrow2 : ∃ row2', m[r2]? = some row2' ∧ row2'.cells ≠ [] := by
      by_cases e1 : r2 = r
      · subst e1
        rw [if_pos rfl] at hr2
        simp only [Option.some.injEq] at hr2
        subst hr2
        exact ⟨row, hrow, hnn hn2⟩
      · rw [if_neg e1] at hr2
        exact ⟨row2, hr2, hn2⟩
    obtain ⟨a1, b1, c1, d1⟩ := hrow1
    obtain ⟨a2, b2, d2⟩ := hrow2
    exact h.sep r1 r2 l1 l2 a1 a2 h1 h2 hne b1 b2 c1 d1 d2
  · intro b _ hf
    rw [setRow_other w _ _ _ (fun e => hf r l hr hb e.symm)]
/-- A new block of cells: a new row of what it begins with. -/
theorem Rel.push {ρ : Map} {m : M} {w : World} (h : Rel ρ m w) (row : Row) (C : Array Value) (T : TypeId) (hC : ∃ rest, ∃ cs', LRel ρ row.cells cs' ∧ C.toList = cs' ++ rest) (base : Nat) (hb : base ≤ m.length) :
    ∃ ρ' : Map, ρ' m.length = some ⟨w.heap.size, 0, C.size, row.esz, row.ex⟩ ∧ Rel ρ' (m ++ [row]) (w.alloc (.cells C T)) ∧ Ext base ρ ρ' w (w.alloc (.cells C T)) := by
  obtain ⟨rest, cs', hrel, hCl⟩ := hC
  have hnone : ρ m.length = none := by
    cases e : ρ m.length with
    | none => rfl
    | some l => have := h.dom _ _ e; omega
  have hle : ρ.le (fun r => if r = m.length then some ⟨w.heap.size, 0, C.size, row.esz, row.ex⟩ else ρ r) := by
    intro r l hr
    have : r ≠ m.length := by intro e; subst e; rw [hnone] at hr; simp at hr
    simp [this, hr]
  have hold : ∀ (b : Nat) o, w.heap[b]? = some o → (w.alloc (.cells C T)).heap[b]? = some o := by
    intro b o hb
    have : b < w.heap.size := (Array.getElem?_eq_some_iff.1 hb).1
    show (w.heap.push _)[b]? = _
    rw [Array.getElem?_push, if_neg (by omega)]; exact hb
  refine ⟨_, by simp, ⟨?_, ?_, ?_, h.gl.of (fun g _ hs => by show (w.heap.push _)[g]? = _; rw [Array.getElem?_push, if_neg (by omega)]) (fun g hf hs r l hr => by
      by_cases e : r = m.length
      · simp [e] at hr; rw [← hr]; simp only; omega
      · simp [e] at hr; exact hf r l hr)⟩, ⟨hle, ?_, by simp, rfl, rfl, rfl, ?_⟩⟩
  · intro r l hr
    by_cases e : r = m.length
    · simp [e]
    · simp [e] at hr
      have := h.dom r l hr
      simp; omega
  · intro r l row' hr hrow
    by_cases e : r = m.length
    · subst e
      simp at hr
      subst hr
      simp at hrow
      subst hrow
      refine ⟨rfl, rfl, C, T, (0, 0), by show (w.heap.push _)[_]? = _; simp, rfl, ?_, fun _ => rfl, ?_⟩
      · have : C.toList.length = cs'.length + rest.length := by rw [hCl]; simp
        have h1 := hrel.1
        simp at this
        simp only
        omega
      · intro j v hj
        obtain ⟨v', hv', hvr⟩ := hrel.get hj
        refine ⟨v', ?_, hvr.mono hle⟩
        have hjl : j < cs'.length := (List.getElem?_eq_some_iff.1 hv').1
        simp only [Nat.zero_add]
        rw [← Array.getElem?_toList, hCl, List.getElem?_append_left hjl]
        exact hv'
    · simp [e] at hr
      have hlt := h.dom r l hr
      rw [List.getElem?_append_left hlt] at hrow
      obtain ⟨a, b, C2, T2, fz, hh, hs, hlen, hf, hc⟩ := h.row r l row' hr hrow
      refine ⟨a, b, C2, T2, fz, hold _ _ hh, hs, hlen, hf, fun j v hj => ?_⟩
      obtain ⟨v', hv', hvr⟩ := hc j v hj
      exact ⟨v', hv', hvr.mono hle⟩
  · have hlt : ∀ r l row', ρ r = some l → m[r]? = some row' → l.b < w.heap.size := by
      intro r l row' hr hrow
      obtain ⟨_, _, C2, T2, fz, hh, _⟩ := h.row r l row' hr hrow
      exact (Array.getElem?_eq_some_iff.1 hh).1
    intro r1 r2 l1 l2 row1 row2 h1 h2 hne hr1 hr2 hro hn1 hn2
    by_cases e1 : r1 = m.length
    · have e2 : r2 ≠ m.length := by omega
      simp [e1] at h1
      simp [e2] at h2
      have hl2 := h.dom _ _ h2
      rw [List.getElem?_append_left hl2] at hr2
      have := hlt _ _ _ h2 hr2
      rw [← h1]
      simp only
      omega
    · simp [e1] at h1
      have hl1 := h.dom _ _ h1
      rw [List.getElem?_append_left hl1] at hr1
      have hb1 := hlt _ _ _ h1 hr1
      by_cases e2 : r2 = m.length
      · simp [e2] at h2
        rw [← h2]
        simp only
        omega
      · simp [e2] at h2
        have hl2 := h.dom _ _ h2
        rw [List.getElem?_append_left hl2] at hr2
        exact h.sep r1 r2 l1 l2 row1 row2 h1 h2 hne hr1 hr2 hro hn1 hn2
  · intro r l hr
    by_cases e : r = m.length
    · simp [e] at hr
      subst hr
      exact .inr ⟨by omega, .inl (Nat.le_refl _)⟩
    · simp [e] at hr
      exact .inl hr
  · intro b hb _
    show (w.heap.push _)[b]? = _
    rw [Array.getElem?_push, if_neg (by omega)]
/-- A row that nobody looks into any more. -/
theorem Rel.kill {ρ : Map} {m : M} {w : World} (h : Rel ρ m w) {r : Nat} {row : Row} (hrow : m[r]? = some row) : Rel ρ (m.set r { row with cells := [] }) w := by
  have hrl : r < m.length := (List.getElem?_eq_some_iff.1 hrow).1
  refine ⟨?_, ?_, ?_, h.gl⟩
  · intro r' l' h'; simpa using h.dom r' l' h'
  · intro r' l' row' hr' hrow'
    rw [getElem?_set_row hrl] at hrow'
    by_cases e : r' = r
    · subst e
      rw [if_pos rfl] at hrow'
      simp only [Option.some.injEq] at hrow'
      subst hrow'
      obtain ⟨a, b, C2, T2, fz, hh, hs, hlen, hf, hc⟩ := h.row r' l' row hr' hrow
      exact ⟨a, b, C2, T2, fz, hh, hs, by simp; omega, hf, fun j v hj => by simp at hj⟩
    · rw [if_neg e] at hrow'
      exact h.row r' l' row' hr' hrow'
  · intro r1 r2 l1 l2 row1 row2 h1 h2 hne hr1 hr2 hro1 hn1 hn2
    rw [getElem?_set_row hrl] at hr1 hr2
    by_cases e1 : r1 = r
    · rw [if_pos e1] at hr1
      simp only [Option.some.injEq] at hr1
      subst hr1
      simp at hn1
    · rw [if_neg e1] at hr1
      by_cases e2 : r2 = r
      · rw [if_pos e2] at hr2
        simp only [Option.some.injEq] at hr2
        subst hr2
        simp at hn2
      · rw [if_neg e2] at hr2
        exact h.sep r1 r2 l1 l2 row1 row2 h1 h2 hne hr1 hr2 hro1 hn1 hn2
end Go.AM
namespace Go.AM
open Go
section
variable {P : Program}
theorem run_sizeOf {t : TypeId} {n : Nat} (h : szOf P t = some n) (w : World) : (sizeOf t).run P w = .ok n w := by
  unfold szOf at h
  cases hi : P.info? t with
  | none => simp [hi] at h
  | some i => simp [hi] at h; simp [sizeOf, typeInfo, hi, h]
theorem run_isAgg {t : TypeId} {b : Bool} (h : isAggB P t = some b) (w : World) : (isAgg t).run P w = .ok b w := by
  unfold isAggB at h
  split at h
  · rename_i hu; simp at h; subst h; simp [isAgg, run_underlying hu]
  · rename_i hu; simp at h; subst h; simp [isAgg, run_underlying hu]
  · rename_i d h1 h2 hu
    simp at h; subst h
    unfold isAgg
    rw [Sem.run_bind, run_underlying hu, Result.andThen_ok]
    split
    · exact (h1 _ rfl).elim
    · exact (h2 _ _ rfl).elim
    · rfl
  · simp at h
theorem run_zeroValue {t : TypeId} {z : Value} (h : zeroOf P t = some z) (w : World) : (zeroValue t).run P w = .ok z w ∧ vconst z = true := by
  unfold zeroOf at h
  cases hi : P.info? t with
  | none => simp [hi] at h
  | some i =>
    simp only [hi] at h
    split at h
    · rename_i z' hz
      split at h
      · rename_i hc; simp at h; subst h
        exact ⟨by simp [zeroValue, typeInfo, hi, hz], hc⟩
      · simp at h
    · simp at h
theorem run_zeroValue' {t : TypeId} {z : Value} (h : zeroOf P t = some z) (w : World) : (zeroValue t).run P w = .ok z w := (run_zeroValue h w).1
end
/-- What a frame says of the temporaries. -/
structure FRel (ρ : Map) (T : Fr) (a : Act) : Prop where
  n : T.n = a.tmps.size
  l : ∀ t v, alook T.l t = some v → VRel ρ v (a.eval (.tmp t))
theorem FRel.mono {ρ ρ' : Map} (hle : ρ.le ρ') {T : Fr} {a : Act} (h : FRel ρ T a) : FRel ρ' T a := ⟨h.n, fun t v e => (h.l t v e).mono hle⟩
theorem ev_sound {ρ : Map} {T : Fr} {a : Act} (hT : FRel ρ T a) {x : Operand} {v : Value} (h : ev T x = some v) : VRel ρ v (a.eval x) := by
  cases x with
  | tmp t => exact hT.l t v h
  | const c =>
    simp only [ev] at h
    split at h
    · rename_i hc; simp at h; subst h; exact vconst_rel hc
    · simp at h
  | global g =>
    simp only [ev] at h
    split at h
    · simp only [Option.some.injEq] at h; subst h; exact .gptr
    · simp at h
  | func f =>
    simp [ev] at h
    subst h
    exact .func f rfl (fun i u v a => by simp at a) rfl (fun i u v a => by simp at a)
theorem evs_sound {ρ : Map} {T : Fr} {a : Act} (hT : FRel ρ T a) : ∀ {xs : List Operand} {vs : List Value}, evs T xs = some vs → LRel ρ vs (xs.map a.eval)
  | [], vs, h => by simp [evs] at h; subst h; exact LRel.nil ρ
  | x :: xs, vs, h => by
    unfold evs at h
    split at h
    · simp at h
    · rename_i v hv
      split at h
      · simp at h
      · rename_i vs' hvs
        simp at h; subst h
        exact LRel.cons (ev_sound hT hv) (evs_sound hT hvs)
theorem alook_cons (k : Nat) (v : Value) (l : List (Nat × Value)) (t : Nat) : alook ((k, v) :: l) t = if k = t then some v else alook l t := by
  simp only [alook]
  by_cases h : k = t
  · subst h; simp
  · have : Nat.beq k t = false := by
      cases e : Nat.beq k t with
      | false => rfl
      | true => exact absurd (Nat.eq_of_beq_eq_true e) h
    rw [this]; simp [h]
theorem FRel.put {ρ : Map} {T : Fr} {a : Act} (h : FRel ρ T a) (dst : Option Tmp) {v v' : Value} (hv : VRel ρ v v') : FRel ρ (mput T dst v) (a.put dst v') := by
  cases dst with
  | none => exact h
  | some d =>
    simp only [mput, Act.put]
    split
    · rename_i hd
      have hd' : T.n ≤ d := Nat.le_of_ble_eq_true hd
      have : a.tmps.setIfInBounds d v' = a.tmps := by
        apply Array.ext
        · simp
        · intro i h1 h2
          rw [Array.getElem_setIfInBounds]
          split
          · rename_i e; have := h.n; omega
          · rfl
      rw [this]; exact h
    · rename_i hd
      have hd' : d < T.n := by
        rcases Nat.lt_or_ge d T.n with h1 | h1
        · exact h1
        · exact absurd (Nat.ble_eq_true_of_le h1) (by simp [hd])
      refine ⟨by simp [h.n], fun t u hu => ?_⟩
      rw [alook_cons] at hu
      have hlt : d < a.tmps.size := h.n ▸ hd'
      by_cases e : d = t
      · subst e
        rw [if_pos rfl] at hu
        simp only [Option.some.injEq] at hu
        subst hu
        simp only [Act.eval, Array.getD_eq_getD_getElem?]
        rw [Array.getElem?_setIfInBounds]
        simp [hlt]
        exact hv
      · rw [if_neg e] at hu
        have := h.l t u hu
        simp only [Act.eval, Array.getD_eq_getD_getElem?] at this ⊢
        rw [Array.getElem?_setIfInBounds]
        simpa [e] using this
theorem alook_collect {l : List (Nat × Value)} {t : Nat} {v : Value} : ∀ {ks : List Nat}, alook (collect l ks) t = some v → alook l t = some v
  | [], h => by simp [collect, alook] at h
  | k :: ks, h => by
    unfold collect at h
    split at h
    · rename_i u hu
      rw [alook_cons] at h
      split at h
      · rename_i e
        simp at h; subst h; subst e; exact hu
      · exact alook_collect h
    · exact alook_collect h
theorem FRel.trim {ρ : Map} {T : Fr} {a : Act} (h : FRel ρ T a) (keep : Option (List Nat)) : FRel ρ (T.trim keep) a := by
  cases keep with
  | none => exact h
  | some ks => exact ⟨h.n, fun t v hv => h.l t v (alook_collect hv)⟩
/-- Parts of a literal, one by one. -/
def PRel (ρ : Map) : List (Nat × Value) → List (Nat × Value) → Prop
  | [], [] => True
  | x :: xs, y :: ys => (x.1 = y.1 ∧ VRel ρ x.2 y.2) ∧ PRel ρ xs ys
  | _, _ => False
theorem evParts_sound {ρ : Map} {T : Fr} {a : Act} (hT : FRel ρ T a) : ∀ {xs : List (Nat × Operand)} {vs : List (Nat × Value)}, evParts T xs = some vs → PRel ρ vs (xs.map fun p => (p.1, a.eval p.2))
  | [], vs, h => by simp [evParts] at h; subst h; trivial
  | (i, x) :: xs, vs, h => by
    unfold evParts at h
    split at h
    · simp at h
    · rename_i v hv
      split at h
      · simp at h
      · rename_i vs' hvs
        simp at h; subst h
        exact ⟨⟨rfl, ev_sound hT hv⟩, evParts_sound hT hvs⟩
/-- What an operation comes to: a value, or nothing where a statement has none. -/
def Res (P : Program) (s : Sem Next) (w : World) (v' : Value) (w' : World) : Prop := s.run P w = .ok (.value v') w' ∨ (s.run P w = .ok .skip w' ∧ v' = undef)
structure Env.Good (E : Env) : Prop where
  eqt : ∀ t xs ys r w (x y : Operand), E.eqt t ≠ [] → ceqs xs.toList ys.toList (E.eqt t) = some r →
    (do eqGuard .eql t x y (.agg xs) (.agg ys); binOp .eql t (.agg xs) (.agg ys) : Sem Value).run E.P w = .ok (.bool r) w ∧
    (do eqGuard .neq t x y (.agg xs) (.agg ys); binOp .neq t (.agg xs) (.agg ys) : Sem Value).run E.P w = .ok (.bool (!r)) w
  nog : ∀ (f : FuncId) fn, E.P.funcs[f]? = some fn → fn.body.isSome = true → (fn.name == "runtime.NumGoroutine") = false
theorem mint_sound {P : Program} {op : BinOp} {k : IntKind} {x y : Int} {v : Value} (h : mint op k x y = some v) (hs : op ≠ .shl) (hs' : op ≠ .shr) (t : TypeId) (w : World) :
    (binOp op t (.int k x) (.int k y)).run P w = .ok v w ∧ ∀ ρ, VRel ρ v v := by
  cases op <;> simp only [mint] at h <;> first
    | (simp at hs; done)
    | (simp at hs'; done)
    | (simp at h; done)
    | (simp only [Option.some.injEq] at h; subst h; exact ⟨by simp [binOp, Op.intArith, Op.intCmp, Op.intBits], fun ρ => by constructor⟩)
    | (split at h
       · simp at h
       · rename_i hy
         simp only [Option.some.injEq] at h; subst h; exact ⟨by simp [binOp, Op.intDiv, hy], fun ρ => by constructor⟩)
theorem ceq_rel {ρ : Map} {x y x' y' : Value} (hx : VRel ρ x x') (hy : VRel ρ y y') {n : Nat} {r : Bool} (h : ceq n x y = some r) : ceq n x' y' = some r := by
  unfold ceq at h
  split at h
  · cases hx; cases hy; simpa [ceq] using h
  · cases hx; cases hy; simpa [ceq] using h
  · simp at h
theorem ceqs_rel {ρ : Map} {xs ys xs' ys' : List Value} (hx : LRel ρ xs xs') (hy : LRel ρ ys ys') {r : Bool} : ∀ {is : List Nat}, ceqs xs ys is = some r → ceqs xs' ys' is = some r
  | [], h => h
  | i :: is, h => by
    unfold ceqs at h ⊢
    split at h
    · rename_i x y ex ey
      obtain ⟨x', ex', rx⟩ := hx.get ex
      obtain ⟨y', ey', ry⟩ := hy.get ey
      simp only [ex', ey']
      cases hc : ceq (i % 2) x y with
      | none => simp [hc] at h
      | some b =>
        rw [ceq_rel rx ry hc]
        cases b with
        | true => simp only [hc] at h ⊢; exact ceqs_rel hx hy h
        | false => simpa [hc] using h
    · simp at h
theorem run_equalIn_bool {P : Program} (d : Nat) {t : TypeId} (hu : P.underlying t = some .bool) (a b : Bool) (w : World) : (Op.equalIn (d + 1) t (.bool a) (.bool b)).run P w = .ok (a == b) w := by
  simp [Op.equalIn, run_underlying hu]
theorem run_equal_bool {P : Program} {t : TypeId} (hu : P.underlying t = some .bool) (a b : Bool) (w : World) : (Op.equal t (.bool a) (.bool b)).run P w = .ok (a == b) w :=
  run_equalIn_bool 9999 hu a b w
theorem binOp_eql_bool (t : TypeId) (a b : Bool) : binOp .eql t (.bool a) (.bool b) = (do pure (.bool (← Op.equal t (.bool a) (.bool b)))) := rfl
theorem binOp_neq_bool (t : TypeId) (a b : Bool) : binOp .neq t (.bool a) (.bool b) = (do pure (.bool (!(← Op.equal t (.bool a) (.bool b))))) := rfl
theorem run_equal_nil {P : Program} {t e : TypeId} (hu : P.underlying t = some (.slice e)) (a : Option Addr) (n c : Nat) (w : World) : (Op.equal t (.slice a n c) (.slice none 0 0)).run P w = .ok a.isNone w := by
  have h : ∀ d, (Op.equalIn (d + 1) t (.slice a n c) (.slice none 0 0)).run P w = .ok a.isNone w := fun d => by
    cases a with
    | none => simp [Op.equalIn, run_underlying hu]
    | some a => simp [Op.equalIn, run_underlying hu]
  exact h 9999
theorem binOp_eql_nil (t : TypeId) (a : Option Addr) (n c : Nat) : binOp .eql t (.slice a n c) (.slice none 0 0) = (do pure (.bool (← Op.equal t (.slice a n c) (.slice none 0 0)))) := rfl
theorem binOp_neq_nil (t : TypeId) (a : Option Addr) (n c : Nat) : binOp .neq t (.slice a n c) (.slice none 0 0) = (do pure (.bool (!(← Op.equal t (.slice a n c) (.slice none 0 0))))) := rfl
theorem mbin_sound {E : Env} (hE : E.Good) {ρ : Map} {op : BinOp} {t : TypeId} {x y x' y' v : Value} (h : mbin E op t x y = some v) (hx : VRel ρ x x') (hy : VRel ρ y y') (ox oy : Operand) (w : World) :
    (do eqGuard op t ox oy x' y'; binOp op t x' y' : Sem Value).run E.P w = .ok v w ∧ VRel ρ v v := by
  unfold mbin at h
  split at h
  · rename_i k a k' b
    cases hx; cases hy
    have hg : (eqGuard op t ox oy (.int k a) (.int k' b)).run E.P w = .ok () w := by
      cases op <;> simp [eqGuard]
    rw [Sem.run_bind, hg, Result.andThen_ok]
    split at h
    · split at h
      · simp at h
      · rename_i hb
        simp at h; subst h
        exact ⟨by simp [binOp, Op.shift, hb], .int _ _⟩
    · split at h
      · simp at h
      · rename_i hb
        simp at h; subst h
        exact ⟨by simp [binOp, Op.shift, hb], .int _ _⟩
    · rename_i hs hs'
      split at h
      · rename_i hk
        subst hk
        have := mint_sound (P := E.P) h hs hs' t w
        exact ⟨this.1, this.2 ρ⟩
      · simp at h
  · rename_i a b
    cases hx; cases hy
    have hg : (eqGuard op t ox oy (.string a) (.string b)).run E.P w = .ok () w := by
      cases op <;> simp [eqGuard]
    rw [Sem.run_bind, hg, Result.andThen_ok]
    unfold mstr at h
    split at h
    · split at h
      · rename_i hl
        simp at h; subst h
        refine ⟨?_, .string _⟩
        have : ¬ (9223372036854775807 < ((a.size : Int) + (b.size : Int))) := by omega
        simp [binOp, Op.stringOp, this]
      · simp at h
    all_goals first
      | (simp only [Option.some.injEq] at h; subst h; exact ⟨by simp [binOp, Op.stringOp], .bool _⟩)
      | (simp at h; done)
  · rename_i a b
    cases hx; cases hy
    split at h
    · rename_i hu
      split at h
      · simp at h; subst h
        exact ⟨by simp only [eqGuard, binOp_eql_bool, Sem.run_bind, run_equal_bool hu]; rfl, .bool _⟩
      · simp at h; subst h
        exact ⟨by simp only [eqGuard, binOp_neq_bool, Sem.run_bind, run_equal_bool hu]; rfl, .bool _⟩
      · simp at h
    · simp at h
  · rename_i a n c
    split at h
    · rename_i e hu
      obtain ⟨a', n', c', rfl, ha⟩ : ∃ a' n' c', x' = .slice a' n' c' ∧ a'.isNone = a.isNone := by
        cases hx
        · exact ⟨_, _, _, rfl, rfl⟩
        · exact ⟨_, _, _, rfl, rfl⟩
        · exact ⟨_, _, _, rfl, rfl⟩
        · exact ⟨_, _, _, rfl, rfl⟩
        · exact ⟨_, _, _, rfl, rfl⟩
      cases hy
      split at h
      · simp only [Option.some.injEq] at h; subst h
        exact ⟨by simp only [eqGuard, binOp_eql_nil, Sem.run_bind, run_equal_nil hu, ha]; rfl, .bool _⟩
      · simp only [Option.some.injEq] at h; subst h
        exact ⟨by simp only [eqGuard, binOp_neq_nil, Sem.run_bind, run_equal_nil hu, ha]; rfl, .bool _⟩
      · simp at h
    · simp at h
  · rename_i xs ys
    cases hx with
    | agg hx hx' =>
      rename_i xs'
      cases hy with
      | agg hy hy' =>
        rename_i ys'
        have h1 := lrel_of_array hx hx'
        have h2 := lrel_of_array hy hy'
        cases hq : E.eqt t with
        | nil => simp [hq] at h
        | cons i is =>
          simp only [hq] at h
          split at h
          · cases hc : ceqs xs.toList ys.toList (i :: is) with
            | none => simp [hc] at h
            | some r =>
              simp [hc] at h; subst h
              have := hE.eqt t xs' ys' r w ox oy (by simp [hq]) (by rw [hq]; exact ceqs_rel h1 h2 hc)
              exact ⟨this.1, .bool _⟩
          · cases hc : ceqs xs.toList ys.toList (i :: is) with
            | none => simp [hc] at h
            | some r =>
              simp [hc] at h; subst h
              have := hE.eqt t xs' ys' r w ox oy (by simp [hq]) (by rw [hq]; exact ceqs_rel h1 h2 hc)
              exact ⟨this.2, .bool _⟩
          · simp at h
  · simp at h
theorem mun_sound {P : Program} {ρ : Map} {op : UnOp} {x x' v : Value} (h : mun op x = some v) (hx : VRel ρ x x') (w : World) :
    (Op.unary op x').run P w = .ok v w ∧ VRel ρ v v := by
  unfold mun at h
  split at h
  · cases hx; simp at h; subst h; exact ⟨by simp [Op.unary, Op.intArith], .int _ _⟩
  · cases hx; simp at h; subst h; exact ⟨by simp [Op.unary, Op.intBits], .int _ _⟩
  · cases hx; simp at h; subst h; exact ⟨by simp [Op.unary], .bool _⟩
  · simp at h
theorem mconvert_sound {P : Program} {ρ : Map} {s d : TypeId} {x x' v : Value} (h : mconvert P s d x = some v) (hx : VRel ρ x x') (w : World) :
    (convert s d x').run P w = .ok v w ∧ VRel ρ v v := by
  unfold mconvert at h
  split at h
  · rename_i hs hd
    cases hx; simp at h; subst h
    exact ⟨by simp [convert, run_underlying hs, run_underlying hd, Conv.intToInt], .int _ _⟩
  · rename_i hs hd
    cases hx; simp at h; subst h
    exact ⟨by simp [convert, run_underlying hs, run_underlying hd], .string _⟩
  · simp at h
end Go.AM
namespace Go.AM
open Go
section
variable {P : Program} {ρ : Map} {m : M} {w : World}
theorem add_eq (b o k : Nat) : (Addr.add ⟨b, o, none⟩ k) = ⟨b, o + k, none⟩ := by unfold Addr.add; split <;> simp_all
theorem gread_sound (hR : Rel ρ m w) {g off k : Nat} {cs : List Value} (h : gread g off k = some cs) : LRel ρ cs cs ∧ cs.length = k ∧ ∀ j v, cs[j]? = some v → w.cell? (Addr.add ⟨g, off, none⟩ j) = some v := by
  unfold gread at h
  split at h
  · simp at h
  · rename_i l hl
    obtain ⟨C, T, fz, hh, hC⟩ := hR.gl.here g l hl
    split at h
    · rename_i hle
      split at h
      · rename_i hs
        simp only [Option.some.injEq] at h
        subst h
        refine ⟨lrel_simple hs, by simp; omega, fun j v hj => ?_⟩
        rw [List.getElem?_take] at hj
        split at hj
        · rw [List.getElem?_drop, ← hC, Array.getElem?_toList] at hj
          rw [add_eq]
          simp [World.cell?, hh, hj]
        · simp at hj
      · simp at h
    · simp at h
theorem gload_sound (hR : Rel ρ m w) {t : TypeId} {g off : Nat} {v : Value} (h : gload P t g off = some v) :
    ∃ v', (Instr.loadAt t (.pointer (some ⟨g, off, none⟩))).run P w = .ok v' w ∧ VRel ρ v v' := by
  unfold gload at h
  split at h
  · rename_i hag
    split at h
    · rename_i n hn
      cases hc : gread g off n with
      | none => simp [hc] at h
      | some cs =>
        simp [hc] at h; subst h
        obtain ⟨hl, hk, hcell⟩ := gread_sound hR hc
        refine ⟨.agg cs.toArray, ?_, vrel_agg hl⟩
        have := run_loadCells_list (P := P) w ⟨g, off, none⟩ cs hcell
        rw [hk] at this
        simp [Instr.loadAt, Instr.sureAddr, loadVar, run_isAgg hag, run_sizeOf hn, this]
    · simp at h
  · rename_i hag
    split at h
    · rename_i u hc
      simp only [Option.some.injEq] at h
      subst h
      obtain ⟨hl, hk, hcell⟩ := gread_sound hR hc
      have h0 := hcell 0 u rfl
      rw [add_eq, Nat.add_zero] at h0
      exact ⟨u, by simp [Instr.loadAt, Instr.sureAddr, loadVar, run_isAgg hag, h0], hl.2 0 u u rfl rfl⟩
    · simp at h
  · simp at h
theorem mload_sound (hR : Rel ρ m w) {t : TypeId} {a a' v : Value} (h : mload P m t a = some v) (ha : VRel ρ a a') :
    ∃ v', (Instr.loadAt t a').run P w = .ok v' w ∧ VRel ρ v v' := by
  unfold mload at h
  split at h
  · rename_i r off
    cases ha with
    | ptr hr =>
      rename_i l
      split at h
      · rename_i hag
        split at h
        · rename_i n hn
          cases hc : mread m r off n with
          | none => simp [hc] at h
          | some cs =>
            simp [hc] at h; subst h
            obtain ⟨cs', hl, hk, hcell⟩ := hR.read hr hc
            refine ⟨.agg cs'.toArray, ?_, vrel_agg hl⟩
            have := run_loadCells_list (P := P) w ⟨l.b, l.base + off, none⟩ cs' hcell
            rw [hk] at this
            simp [Instr.loadAt, Instr.sureAddr, loadVar, run_isAgg hag, run_sizeOf hn, this]
        · simp at h
      · rename_i hag
        obtain ⟨v', hv', hrel⟩ := hR.cell hr h
        exact ⟨v', by simp [Instr.loadAt, Instr.sureAddr, loadVar, run_isAgg hag, hv'], hrel⟩
      · simp at h
  · rename_i g off
    cases ha with
    | gptr => exact gload_sound hR h
  · simp at h
theorem bytesOf_some : ∀ {cs : List Value} {l : List Int}, bytesOf cs = some l → cs = l.map (Value.int .u8)
  | [], l, h => by
    simp only [bytesOf, Option.some.injEq] at h
    subst h; rfl
  | v :: vs, l, h => by
    unfold bytesOf at h
    split at h
    · rename_i e; simp at e
    · rename_i n vs' e
      simp only [List.cons.injEq] at e
      obtain ⟨rfl, rfl⟩ := e
      split at h
      · rename_i l' hl
        simp only [Option.some.injEq] at h
        subst h
        rw [bytesOf_some hl]; rfl
      · simp at h
    · simp at h
theorem mread_length {r off k : Nat} {cs : List Value} (h : mread m r off k = some cs) : cs.length = k := by
  unfold mread at h
  split at h
  · simp at h
  · split at h
    · simp only [Option.some.injEq] at h
      subst h
      rw [List.length_take, List.length_drop]; omega
    · simp at h
theorem lrel_bytes {cs' : List Value} {l : List Int} (h : LRel ρ (l.map (Value.int .u8)) cs') : cs' = l.map (Value.int .u8) := by
  obtain ⟨h1, h2⟩ := h
  refine List.ext_getElem? fun i => ?_
  by_cases hi : i < l.length
  · have e1 : (l.map (Value.int .u8))[i]? = some (.int .u8 l[i]) := by simp [hi]
    have hi' : i < cs'.length := by rw [← h1]; simpa using hi
    have e2 : cs'[i]? = some cs'[i] := List.getElem?_eq_getElem hi'
    have := h2 i _ _ e1 e2
    rw [e1, e2]
    generalize cs'[i] = y at this
    cases this
    rfl
  · rw [List.getElem?_eq_none (by rw [← h1]; simpa using hi), List.getElem?_eq_none (by simpa using hi)]
theorem mbytes_sound (hR : Rel ρ m w) {s d : TypeId} {x x' v : Value} (h : mbytes P m s d x = some v) (hx : VRel ρ x x') :
    (convert s d x').run P w = .ok v w ∧ VRel ρ v v := by
  unfold mbytes at h
  split at h
  · rename_i e _ _ hs hd
    cases hx
    split at h
    · rename_i he
      simp only [Option.some.injEq] at h
      subst h
      exact ⟨run_convert_bytes_nil w s e hs he _ _ d hd, .string _⟩
    · simp at h
  · rename_i e r off len _ hs hd
    split at h
    case h_2 => simp at h
    rename_i he
    split at h
    case h_2 => simp at h
    rename_i cs hread
    split at h
    case h_2 => simp at h
    rename_i l hl
    simp only [Option.some.injEq] at h
    subst h
    have hcs := bytesOf_some hl
    subst hcs
    cases hx with
    | slice hr h1 h2 h3 h4 h5 =>
      rename_i off' cap' l'
      obtain ⟨cs', hrel, hk, hcell⟩ := hR.read hr hread
      have hcs' := lrel_bytes hrel
      subst hcs'
      have hlen : len = l.length := by
        have := mread_length hread
        simpa using this.symm
      have key : (loadCells ⟨l'.b, off', none⟩ len).run P w = .ok (l.map (Value.int .u8)).toArray w := by
        rcases h4 with h4 | h4
        · have h0 : len = 0 := by omega
          have hl0 : l = [] := List.eq_nil_of_length_eq_zero (by omega)
          subst hl0
          subst h0
          simpa using run_loadCells_list (P := P) w ⟨l'.b, off', none⟩ [] (by simp)
        · subst h4
          have := run_loadCells_list (P := P) w ⟨l'.b, l'.base + off, none⟩ _ hcell
          simpa [hlen] using this
      refine ⟨?_, .string _⟩
      rw [run_convert_bytes_string w s d e _ len cap' hs he hd, run_bytesToString w _ len cap' l key, foldl_push_bytes]
      simp [strOfNums, ByteArray.empty, ByteArray.emptyWithCapacity]
      rfl
  · simp at h
theorem mconv_sound (hR : Rel ρ m w) {s d : TypeId} {x x' v : Value} (h : mconv P m s d x = some v) (hx : VRel ρ x x') :
    (convert s d x').run P w = .ok v w ∧ VRel ρ v v := by
  unfold mconv at h
  split at h
  · exact mbytes_sound hR h hx
  · exact mconvert_sound h hx w
theorem mstore_sound (hR : Rel ρ m w) {base : Nat} {t : TypeId} {a a' v v' : Value} {m' : M} (h : mstore P base m t a v = some m') (ha : VRel ρ a a') (hv : VRel ρ v v') :
    ∃ w', (Instr.storeAt t a' v').run P w = .ok () w' ∧ Rel ρ m' w' ∧ Ext base ρ ρ w w' := by
  unfold mstore at h
  split at h
  · rename_i r off
    cases ha with
    | ptr hr =>
      rename_i l
      split at h
      · rename_i n hn
        split at h
        · rename_i hsz
          obtain ⟨w', hs, hR', hE⟩ := hR.write (P := P) hr h hv.cells
          refine ⟨w', ?_, hR', hE⟩
          simp [Instr.storeAt, Instr.sureAddr, storeVar, run_sizeOf hn, hv.cells_size, hsz, hs]
        · simp at h
      · simp at h
  · simp at h
theorem alloc_sound (hR : Rel ρ m w) (base : Nat) (hb : base ≤ m.length) (T : TypeId) {cs : List Value} {C : Array Value} (h : LRel ρ cs C.toList) (esz : Nat) (ex : Bool) :
    ∃ ρ' : Map, VRel ρ' (.pointer (some ⟨m.length, 0, none⟩)) (.pointer (some ⟨w.heap.size, 0, none⟩)) ∧ ρ' m.length = some ⟨w.heap.size, 0, C.size, esz, ex⟩ ∧
      Rel ρ' (m ++ [{ esz := esz, ex := ex, ro := false, cells := cs }]) (w.alloc (.cells C T)) ∧ Ext base ρ ρ' w (w.alloc (.cells C T)) := by
  obtain ⟨ρ', h1, h2, h3⟩ := hR.push { esz := esz, ex := ex, ro := false, cells := cs } C T ⟨[], C.toList, h, by simp⟩ base hb
  exact ⟨ρ', by have := VRel.ptr (ρ := ρ') (off := 0) h1; simpa using this, h1, h2, h3⟩
theorem run_places {fs : List Field} : ∀ {ps : List (Nat × Nat)}, placesOf P fs = some ps →
    (fs.mapM (fun f => do pure (f.offset, ← sizeOf f.type)) : Sem (List (Nat × Nat))).run P w = .ok ps w := by
  induction fs with
  | nil => intro ps h; simp [placesOf] at h; subst h; simp
  | cons f fs ih =>
    intro ps h
    unfold placesOf at h
    split at h
    · simp at h
    · rename_i n hn
      split at h
      · simp at h
      · rename_i ps' hps
        simp at h; subst h
        have ih' := ih hps
        simp only [bind_pure_comp] at ih'
        simp [List.mapM_cons, run_sizeOf hn, ih']
theorem foldl_set_rel : ∀ {xs ys : List Value} (_ : LRel ρ xs ys) (off k : Nat) {A B : Array Value} (_ : LRel ρ A.toList B.toList),
    LRel ρ (((xs.zipIdx k).foldl (fun cs (p : Value × Nat) => cs.setIfInBounds (off + p.2) p.1) A)).toList (((ys.zipIdx k).foldl (fun cs (p : Value × Nat) => cs.setIfInBounds (off + p.2) p.1) B)).toList
  | [], [], _, _, _, _, _, h => h
  | [], _ :: _, h, _, _, _, _, _ => by have := h.1; simp at this
  | _ :: _, [], h, _, _, _, _, _ => by have := h.1; simp at this
  | x :: xs, y :: ys, h, off, k, A, B, hAB => by
    simp only [List.zipIdx_cons, List.foldl_cons]
    refine foldl_set_rel ⟨by have := h.1; simpa using this, fun i u v a b => h.2 (i + 1) u v (by simpa using a) (by simpa using b)⟩ off (k + 1) ?_
    simp only [Array.toList_setIfInBounds]
    exact hAB.set _ (h.2 0 x y rfl rfl)
theorem fill_rel (place : Nat → Option (Nat × Nat)) : ∀ {ps qs : List (Nat × Value)} (_ : PRel ρ ps qs) {A B : Array Value} (_ : LRel ρ A.toList B.toList) {r : Array Value}, Instr.fill place A ps = some r →
    ∃ r', Instr.fill place B qs = some r' ∧ LRel ρ r.toList r'.toList
  | [], [], _, A, B, hAB, r, h => by simp [Instr.fill] at h ⊢; subst h; exact hAB
  | [], _ :: _, h, _, _, _, _, _ => h.elim
  | _ :: _, [], h, _, _, _, _, _ => h.elim
  | (i, v) :: ps, (j, v') :: qs, hpq, A, B, hAB, r, h => by
    obtain ⟨⟨he, hv⟩, hrest⟩ := hpq
    simp only at he hv; subst he
    unfold Instr.fill at h ⊢
    split at h
    · simp at h
    · rename_i off size hp
      split at h
      · simp at h
      · rename_i hc
        have hsz := hv.cells_size
        have hAB' : A.size = B.size := by simpa using hAB.1
        simp only [hp]
        rw [if_neg (by rw [hsz, ← hAB']; exact hc)]
        have hz : LRel ρ (Array.foldl (fun cs (p : Value × Nat) => cs.setIfInBounds (off + p.2) p.1) A v.cells.zipIdx).toList (Array.foldl (fun cs (p : Value × Nat) => cs.setIfInBounds (off + p.2) p.1) B v'.cells.zipIdx).toList := by
          rw [← Array.foldl_toList, ← Array.foldl_toList, Array.toList_zipIdx, Array.toList_zipIdx]
          exact foldl_set_rel hv.cells off 0 hAB
        exact fill_rel place hrest hz h
theorem mbuild_sound {t : TypeId} {ps qs : List (Nat × Value)} {v : Value} (h : mbuild P t ps = some v) (hp : PRel ρ ps qs) :
    ∃ v', (Instr.build t qs.toArray).run P w = .ok v' w ∧ VRel ρ v v' := by
  unfold mbuild at h
  split at h
  · simp at h
  · rename_i z hz
    have hzr := run_zeroValue hz w
    have hzz : LRel ρ z.cells.toList z.cells.toList := (vconst_rel hzr.2).cells
    split at h
    · rename_i fields hu
      split at h
      · simp at h
      · rename_i pl hpl
        cases hf : Instr.fill (pl.toArray[·]?) z.cells ps with
        | none => rw [hf] at h; simp at h
        | some r =>
          rw [hf] at h; simp at h; subst h
          obtain ⟨r', hr', hrel⟩ := fill_rel _ hp hzz hf
          refine ⟨.agg r', ?_, by have := vrel_agg hrel; simpa using this⟩
          have hm := run_places (P := P) (w := w) hpl
          have hm2 : (fields.mapM (fun f => do pure (f.offset, ← sizeOf f.type)) : Sem (Array (Nat × Nat))).run P w = .ok pl.toArray w := by
            rw [← Array.toArray_toList (xs := fields)]
            simp only [List.mapM_toArray, Sem.run_map, hm, Result.andThen_ok]
          simp only [Instr.build, Sem.run_bind, hzr.1, Result.andThen_ok, run_underlying hu, hm2, hr', Sem.run_pure]
    · rename_i n elem hu
      split at h
      · simp at h
      · rename_i size hs
        cases hf : Instr.fill (fun i => some (i * size, size)) z.cells ps with
        | none => simp [hf] at h
        | some r =>
          simp [hf] at h; subst h
          obtain ⟨r', hr', hrel⟩ := fill_rel _ hp hzz hf
          refine ⟨.agg r', ?_, by have := vrel_agg hrel; simpa using this⟩
          simp only [Instr.build, Sem.run_bind, hzr.1, Result.andThen_ok, run_underlying hu, run_sizeOf hs, hr', Sem.run_pure]
    · simp at h
theorem repCells_length (z : List Value) : ∀ n, (repCells z n).length = n * z.length
  | 0 => by simp [repCells]
  | n + 1 => by simp [repCells, repCells_length z n, Nat.add_mul, Nat.add_comm]
theorem repCells_get (z : List Value) (hz : z.length ≠ 0) : ∀ n i, i < n * z.length → (repCells z n)[i]? = z[i % z.length]?
  | 0, i, h => by simp at h
  | n + 1, i, h => by
    unfold repCells
    by_cases hi : i < z.length
    · rw [List.getElem?_append_left hi, Nat.mod_eq_of_lt hi]
    · rw [List.getElem?_append_right (by omega), repCells_get z hz n (i - z.length) (by rw [Nat.add_mul] at h; omega)]
      rw [Nat.mod_eq_sub_mod (by omega : i ≥ z.length)]
theorem repCells_range (z : Array Value) (n s : Nat) (hs : z.size = s) (h0 : s ≠ 0) : (Array.range (n * s)).map (fun i => z[i % z.size]!) = (repCells z.toList n).toArray := by
  subst hs
  apply Array.ext'
  simp only [Array.toList_map, Array.toList_range]
  apply List.ext_getElem?
  intro i
  rw [List.getElem?_map]
  by_cases hi : i < n * z.size
  · rw [List.getElem?_range hi]
    have := repCells_get z.toList (by simpa using h0) n i (by simpa using hi)
    rw [this]
    have hm : i % z.size < z.size := Nat.mod_lt _ (by omega)
    simp [hm]
  · rw [List.getElem?_eq_none (by simp; omega), List.getElem?_eq_none (by rw [repCells_length]; simp; omega)]
    rfl
theorem lrel_rep {z : List Value} (h : LRel ρ z z) : ∀ n, LRel ρ (repCells z n) (repCells z n)
  | 0 => LRel.nil ρ
  | n + 1 => h.append (lrel_rep h n)
/-- A new row of a slice of its own. -/
theorem slice_new (hR : Rel ρ m w) (base : Nat) (hb : base ≤ m.length) (T : TypeId) {cs cs' : List Value} {rest : List Value} (h : LRel ρ cs cs') (esz : Nat) (ex : Bool) (len cap cap' : Nat) (h1 : len ≤ cap) (h2 : cap ≤ cap')
    (h3 : ex = true → cap' = cap) (h5 : cap' * esz ≤ (cs' ++ rest).length) :
    ∃ ρ' : Map, VRel ρ' (.slice (some ⟨m.length, 0, none⟩) len cap) (.slice (some ⟨w.heap.size, 0, none⟩) len cap') ∧
      Rel ρ' (m ++ [{ esz := esz, ex := ex, ro := false, cells := cs }]) (w.alloc (.cells (cs' ++ rest).toArray T)) ∧ Ext base ρ ρ' w (w.alloc (.cells (cs' ++ rest).toArray T)) := by
  obtain ⟨ρ', a, b, c⟩ := hR.push { esz := esz, ex := ex, ro := false, cells := cs } (cs' ++ rest).toArray T ⟨rest, cs', h, by simp⟩ base hb
  refine ⟨ρ', ?_, b, c⟩
  exact VRel.slice (l := ⟨w.heap.size, 0, (cs' ++ rest).toArray.size, esz, ex⟩) a h1 h2 h3 (.inr rfl) (by simpa using h5)
theorem mbuildSlice_sound (hR : Rel ρ m w) (base : Nat) (hb : base ≤ m.length) {t : TypeId} {len : Nat} {ps qs : List (Nat × Value)} {v : Value} {m' : M} (h : mbuildSlice P m t len ps = some (v, m')) (hp : PRel ρ ps qs) :
    ∃ v' w' ρ', (Instr.buildSlice t len qs.toArray).run P w = .ok v' w' ∧ VRel ρ' v v' ∧ Rel ρ' m' w' ∧ Ext base ρ ρ' w w' := by
  unfold mbuildSlice at h
  simp only [fList_eq, fNat_eq] at h
  split at h
  · rename_i elem hu
    split at h
    · rename_i size z hs hz
      have hzr := run_zeroValue hz w
      split at h
      · simp at h
      · rename_i h0
        split at h
        · simp at h
        · rename_i hzs
          simp only [ne_eq, Decidable.not_not] at hzs
          split at h
          · simp at h
          · rename_i hsmall
            split at h
            · simp at h
            · rename_i cells hf
              simp only [Option.some.injEq, Prod.mk.injEq] at h
              obtain ⟨rfl, rfl⟩ := h
              have hzz : LRel ρ z.cells.toList z.cells.toList := (vconst_rel hzr.2).cells
              obtain ⟨r', hr', hrel⟩ := fill_rel (fun i => some (i * size, size)) hp (A := (repCells z.cells.toList len).toArray) (B := (repCells z.cells.toList len).toArray) (by simpa using lrel_rep hzz len) hf
              have hlen : r'.toList.length = len * size := by
                have := fill_size hr'
                simp [repCells_length, hzs] at this
                simpa using this
              obtain ⟨ρ', a, b, c⟩ := slice_new hR base hb elem (rest := []) hrel size true len len len (Nat.le_refl _) (Nat.le_refl _) (fun _ => rfl) (by simp only [List.append_nil]; omega)
              refine ⟨_, _, ρ', ?_, a, b, c⟩
              have hgt : ¬ (16777216 < len * size) := by simpa using hsmall
              simp only [Instr.buildSlice, Sem.run_bind, run_underlying hu, run_sizeOf hs, Result.andThen_ok]
              by_cases hl0 : len * size = 0
              · have hl : len = 0 := by
                  rcases Nat.mul_eq_zero.1 hl0 with h | h
                  · exact h
                  · exact absurd h h0
                subst hl
                simp only [repCells] at hr'
                simp [Array.range_zero', hr', newRow]
              · have hrr := repCells_range z.cells len size hzs h0
                simp [hgt, hl0, hzr.1, hrr, hr', newRow]
    · simp at h
  · simp at h
where
  fill_size {place : Nat → Option (Nat × Nat)} : ∀ {qs : List (Nat × Value)} {B r' : Array Value}, Instr.fill place B qs = some r' → r'.size = B.size
    | [], B, r', h => by simp [Instr.fill] at h; subst h; rfl
    | (j, v') :: qs, B, r', h => by
      unfold Instr.fill at h
      split at h
      · simp at h
      · split at h
        · simp at h
        · rw [fill_size h, ← Array.foldl_toList]
          exact fold_size _ _ _
  fold_size (off : Nat) : ∀ (l : List (Value × Nat)) (B : Array Value), (l.foldl (fun cs (p : Value × Nat) => cs.setIfInBounds (off + p.2) p.1) B).size = B.size
    | [], B => rfl
    | p :: l, B => by rw [List.foldl_cons, fold_size off l]; simp
end
end Go.AM
namespace Go.AM
open Go
section
variable {P : Program} {ρ : Map} {m : M} {w : World}
theorem i64_wrap_small {n : Int} (h0 : 0 ≤ n) (h1 : n ≤ 2 ^ 62) : IntKind.i64.wrap n = n := by
  have h2 : n % 18446744073709551616 = n := Int.emod_eq_of_lt h0 (by omega)
  have e : IntKind.i64.wrap n = if (IntKind.i64.signed && decide (n % 18446744073709551616 ≥ 9223372036854775808)) = true then n % 18446744073709551616 - 18446744073709551616 else n % 18446744073709551616 := rfl
  rw [e, h2, if_neg]
  simp; intro _; omega
theorem mmakeSlice_sound (hR : Rel ρ m w) (base : Nat) (hbase : base ≤ m.length) {t : TypeId} {l c l' c' v : Value} {m' : M} (h : mmakeSlice P m t l c = some (v, m')) (hl : VRel ρ l l') (hc : VRel ρ c c') :
    ∃ v' w' ρ', (Instr.makeSlice t l' c').run P w = .ok v' w' ∧ VRel ρ' v v' ∧ Rel ρ' m' w' ∧ Ext base ρ ρ' w w' := by
  unfold mmakeSlice at h
  simp only [fList_eq, fNat_eq] at h
  split at h
  · rename_i elem ln cn hu
    cases hl; cases hc
    split at h
    · rename_i i z hi hz
      have hzr := run_zeroValue hz w
      have hs : szOf P elem = some i.size := by simp [szOf, hi]
      split at h
      · simp at h
      · rename_i h0
        split at h
        · simp at h
        · rename_i hb
          simp only [not_or, Int.not_lt, ne_eq, Decidable.not_not] at h0 hb
          obtain ⟨hl0, hlc, hcm, hbytes⟩ := hb
          simp only [Option.some.injEq, Prod.mk.injEq] at h
          obtain ⟨rfl, rfl⟩ := h
          have hwl : IntKind.i64.wrap ln = ln := i64_wrap_small hl0 (by omega)
          have hwc : IntKind.i64.wrap cn = cn := i64_wrap_small (by omega) (by omega)
          have hzz : LRel ρ z.cells.toList z.cells.toList := (vconst_rel hzr.2).cells
          obtain ⟨k, rfl⟩ := Int.eq_ofNat_of_zero_le (a := cn) (by omega)
          obtain ⟨j, rfl⟩ := Int.eq_ofNat_of_zero_le (a := ln) (by omega)
          obtain ⟨ρ', a, b, d⟩ := slice_new hR base hbase elem (rest := []) (lrel_rep hzz k) i.size true j k k (by omega) (Nat.le_refl _) (fun _ => rfl) (by simp [repCells_length, h0.2])
          simp only [Int.toNat_natCast] at *
          refine ⟨_, _, ρ', ?_, a, b, d⟩
          have hbk : (i.bytes : Int) * (k : Int) ≤ 128 * 1099511627776 := by
            have h1 : i.bytes * k ≤ 128 * 1099511627776 := Nat.mul_le_mul (by omega) (by omega)
            calc (i.bytes : Int) * (k : Int) = ((i.bytes * k : Nat) : Int) := by simp
              _ ≤ ((128 * 1099511627776 : Nat) : Int) := Int.ofNat_le.2 h1
              _ = 128 * 1099511627776 := rfl
          have t1 : ¬ (k : Int) < 0 := by omega
          have t2 : ¬ (281474976710656 < (i.bytes : Int) * (k : Int)) := by omega
          have t3 : ¬ (j : Int) < 0 := by omega
          have t4 : ¬ (k : Int) < (j : Int) := by omega
          have t5 : ¬ (k < j) := by omega
          have hroom : ¬ (140737488355328 < k * i.bytes) := by
            have h1 : k * i.bytes ≤ 1099511627776 * 128 := Nat.mul_le_mul (by omega) (by omega)
            omega
          have hrr := repCells_range z.cells k i.size h0.2 h0.1
          by_cases hk0 : k = 0
          · subst hk0
            obtain rfl : j = 0 := by omega
            have hw0 : IntKind.i64.wrap 0 = 0 := by decide
            simp [Instr.makeSlice, run_underlying hu, asInt, asIntOf, typeInfo, hi, hw0, askRoom, roomBytes, sizeOf, Array.range_zero', newRow, repCells]
          · have hne : ¬ (k * i.size = 0) := by
              intro e
              rcases Nat.mul_eq_zero.1 e with e | e
              · exact hk0 e
              · exact h0.1 e
            have hne' : ¬ (k = 0 ∨ i.size = 0) := by rintro (e | e); exact hk0 e; exact h0.1 e
            simp [Instr.makeSlice, run_underlying hu, asInt, asIntOf, typeInfo, hi, hwl, hwc, t1, t2, t3, t5, askRoom, roomBytes, hroom, sizeOf, hne', hk0, h0.1, hzr.1, hrr, newRow]
            exact fun e => absurd e hne
    · simp at h
  · simp at h
def ORel (ρ : Map) : Option Value → Option Value → Prop
  | none, none => True
  | some a, some b => VRel ρ a b
  | _, _ => False
theorem optNat_sound {y : Nat} {x x' : Option Value} {n : Nat} (h : optNat y x = some n) (hx : ORel ρ x x') :
    (x = none ∧ x' = none ∧ n = y) ∨ ∃ k, x' = some (.int k (n : Int)) := by
  cases x with
  | none =>
    cases x' with
    | none => simp [optNat] at h; subst h; exact .inl ⟨rfl, rfl, rfl⟩
    | some b => exact hx.elim
  | some a =>
    cases x' with
    | none => exact hx.elim
    | some b =>
      have hx' : VRel ρ a b := hx
      cases hx' with
      | int k i =>
        simp only [optNat] at h
        split at h
        · simp only [Option.some.injEq] at h
          subst h
          exact .inr ⟨k, by congr 2; omega⟩
        · simp at h
      | _ => simp [optNat] at h
theorem run_sliceBounds {lo hi lo' hi' : Option Value} {l h len cap : Nat} (isSlice : Bool) (hl : optNat 0 lo = some l) (hh : optNat len hi = some h) (rl : ORel ρ lo lo') (rh : ORel ρ hi hi')
    (h1 : h ≤ cap) (h2 : l ≤ h) (w : World) : (Instr.sliceBounds isSlice len cap lo' hi' none).run P w = .ok (l, h, cap) w := by
  have a1 : (lo = none ∧ lo' = none ∧ l = 0) ∨ ∃ k, lo' = some (.int k (l : Int)) := optNat_sound (ρ := ρ) hl rl
  have a2 : (hi = none ∧ hi' = none ∧ h = len) ∨ ∃ k, hi' = some (.int k (h : Int)) := optNat_sound (ρ := ρ) hh rh
  rcases a1 with ⟨_, rfl, rfl⟩ | ⟨k1, rfl⟩ <;> rcases a2 with ⟨_, rfl, rfl⟩ | ⟨k2, rfl⟩ <;>
    simp [Instr.sliceBounds, Instr.sliceBound, asIntOf, h1, h2] <;> omega
theorem mslice_sound (hR : Rel ρ m w) {t : TypeId} {x x' v : Value} {lo hi mx lo' hi' mx' : Option Value} (h : mslice P m t x lo hi mx = some v) (hx : VRel ρ x x') (hlo : ORel ρ lo lo') (hhi : ORel ρ hi hi') (hmx : ORel ρ mx mx') :
    ∃ v', (Instr.sliceAt t x' lo' hi' mx').run P w = .ok v' w ∧ VRel ρ v v' := by
  unfold mslice at h
  split at h
  · rename_i elem a len cap hu
    cases mx' with
    | some b => simp [ORel] at hmx
    | none =>
      split at h
      · rename_i l hh size e1 e2 e3
        split at h
        · rename_i hb
          split at h
          · simp at h; subst h
            cases hx
            have hb' := run_sliceBounds (P := P) (ρ := ρ) true e1 e2 hlo hhi hb.1 hb.2 w
            refine ⟨_, ?_, .sliceNil⟩
            have t1 : l = 0 := by omega
            have t2 : hh = 0 := by omega
            subst t1; subst t2
            simp [Instr.sliceAt, run_underlying hu, Instr.slice, hb', run_sizeOf e3]
          · rename_i r off
            split at h
            case h_2 => simp at h
            rename_i row hrow
            split at h
            case isFalse => simp at h
            rename_i hesz
            simp at h; subst h
            cases hx with
            | slice hr h1 h2 h3 h4 h5 =>
              rename_i off' cap' lc
              have hle : lc.esz = size := by rw [← hesz]; exact (hR.row _ _ _ hr hrow).1
              have hb' := run_sliceBounds (P := P) (ρ := ρ) true e1 e2 hlo hhi (by omega : hh ≤ cap') hb.2 w
              by_cases hm : cap' = l
              · refine ⟨.slice (some ⟨lc.b, off', none⟩) (hh - l) (cap' - l), ?_, ?_⟩
                · subst hm; simp [Instr.sliceAt, run_underlying hu, Instr.slice, hb', run_sizeOf e3]
                · refine .slice hr (by omega) (by omega) (fun e => by have := h3 e; omega) (.inl (by omega)) ?_
                  have : (cap' - l) * lc.esz = 0 := by simp [hm]
                  have := Nat.zero_le (cap' * lc.esz)
                  omega
              · have hlt : l < cap' := by omega
                refine ⟨.slice (some ⟨lc.b, off' + l * size, none⟩) (hh - l) (cap' - l), ?_, ?_⟩
                · simp [Instr.sliceAt, run_underlying hu, Instr.slice, hb', run_sizeOf e3, hm, add_eq]
                · refine .slice hr (by omega) (by omega) (fun e => by have := h3 e; omega) (.inr (by rcases h4 with h4 | h4 <;> omega)) ?_
                  rw [hle] at h5 ⊢
                  have : cap' * size = l * size + (cap' - l) * size := by rw [← Nat.add_mul]; congr 1; omega
                  omega
          · simp at h
        · simp at h
      · simp at h
  · rename_i elem a len cap b hu
    cases mx' with
    | none => simp [ORel] at hmx
    | some b' =>
      split at h
      case h_2 => simp at h
      rename_i q1 h1 q2 k size e3
      cases lo' with
      | some _ => simp [ORel] at hlo
      | none =>
      cases hi' with
      | none => simp [ORel] at hhi
      | some hi' =>
      have hhi : VRel ρ (.int q1 h1) hi' := hhi
      have hmx : VRel ρ (.int q2 k) b' := hmx
      cases hhi; cases hmx
      split at h
      case isFalse => simp at h
      rename_i hb
      obtain ⟨rfl, hk0, hkc⟩ := hb
      obtain ⟨n, rfl⟩ := Int.eq_ofNat_of_zero_le hk0
      have key : ∀ cap' : Nat, n ≤ cap' → (Instr.sliceBounds true len cap' none (some (.int q1 (n : Int))) (some (.int q2 (n : Int)))).run P w = .ok (0, n, n) w := by
        intro cap' hc
        simp [Instr.sliceBounds, Instr.sliceBound, asIntOf, hc]
      split at h
      · simp at h; subst h
        cases hx
        refine ⟨.slice none (n - 0) (n - 0), ?_, ?_⟩
        · simp [Instr.sliceAt, run_underlying hu, Instr.slice, key 0 (by omega), run_sizeOf e3]
        · obtain rfl : n = 0 := by omega
          exact .sliceNil
      · rename_i r off
        split at h
        case h_2 => simp at h
        rename_i row hrow
        split at h
        case isFalse => simp at h
        rename_i hesz
        simp at h; subst h
        cases hx with
        | slice hr h1 h2 h3 h4 h5 =>
          rename_i off' cap' lc
          refine ⟨.slice (some ⟨lc.b, off', none⟩) n n, ?_, ?_⟩
          · simp [Instr.sliceAt, run_underlying hu, Instr.slice, key cap' (by omega), run_sizeOf e3, add_eq]
          · refine .sliceX hr (by rcases h4 with h4 | h4 <;> omega) ?_
            have : n * lc.esz ≤ cap' * lc.esz := Nat.mul_le_mul_right _ (by omega)
            omega
      · simp at h
  · rename_i n elem r off hu
    cases mx' with
    | some b => simp [ORel] at hmx
    | none =>
      split at h
      case h_2 => simp at h
      rename_i hh size e2 e3
      cases lo' with
      | some _ => simp [ORel] at hlo
      | none =>
      split at h
      case isFalse => simp at h
      rename_i hb
      simp at h; subst h
      cases hx with
      | ptr hr =>
        rename_i lc
        have hb' := run_sliceBounds (P := P) (ρ := ρ) (lo := none) (lo' := none) false rfl e2 hlo hhi hb (Nat.zero_le _) w
        refine ⟨_, ?_, .sliceW hr⟩
        simp [Instr.sliceAt, run_underlying hu, Instr.sureAddr, hb', run_sizeOf e3, Addr.add]
  · rename_i s hu
    cases mx' with
    | some b => simp [ORel] at hmx
    | none =>
      cases hx
      split at h
      · rename_i l hh e1 e2
        split at h
        · rename_i hb
          simp at h; subst h
          have hb' := run_sliceBounds (P := P) (ρ := ρ) false e1 e2 hlo hhi hb.1 hb.2 w
          refine ⟨_, ?_, .string _⟩
          simp [Instr.sliceAt, run_underlying hu, Instr.slice, hb']
        · simp at h
      · simp at h
  · simp at h
end
end Go.AM
namespace Go.AM
open Go
section
variable {P : Program} {ρ : Map} {m : M} {w : World}
theorem mfieldAddr_sound {s : TypeId} {x x' v : Value} {f : Nat} (h : mfieldAddr P s x f = some v) (hx : VRel ρ x x') :
    ∃ v', (Instr.fieldAt s x' f).run P w = .ok v' w ∧ VRel ρ v v' := by
  unfold mfieldAddr at h
  split at h
  · rename_i fields r off hu
    split at h
    · rename_i fd hf
      split at h
      · rename_i n hn
        simp at h; subst h
        cases hx with
        | ptr hr =>
          rename_i l
          refine ⟨_, ?_, .ptr (off := off + fd.offset) hr⟩
          simp [Instr.fieldAt, run_underlying hu, hf, Instr.sureAddr, fieldPlace, run_sizeOf hn, add_eq, Nat.add_assoc]
      · simp at h
    · simp at h
  · rename_i fields g off hu
    split at h
    · rename_i fd hf
      split at h
      · rename_i n hn
        simp at h; subst h
        cases hx with
        | gptr =>
          refine ⟨_, ?_, .gptr⟩
          simp [Instr.fieldAt, run_underlying hu, hf, Instr.sureAddr, fieldPlace, run_sizeOf hn, add_eq]
      · simp at h
    · simp at h
  · simp at h
theorem mpart_sound {t : TypeId} {cs cs' : List Value} {off : Nat} {v : Value} (h : mpart P t cs off = some v) (hc : LRel ρ cs cs') :
    ∃ v', (part t cs'.toArray off).run P w = .ok v' w ∧ VRel ρ v v' := by
  unfold mpart at h
  split at h
  · rename_i hag
    split at h
    · rename_i n hn
      split at h
      · rename_i hle
        simp at h; subst h
        refine ⟨.agg ((cs'.drop off).take n).toArray, ?_, ?_⟩
        · simp [part, run_isAgg hag, run_sizeOf hn]
        · exact vrel_agg ((hc.drop off).take n)
      · simp at h
    · simp at h
  · rename_i hag
    obtain ⟨v', hv', hr⟩ := hc.get h
    exact ⟨v', by simp [part, run_isAgg hag, hv'], hr⟩
  · simp at h
theorem mfield_sound {t : TypeId} {x x' v : Value} {f : Nat} (h : mfield P t x f = some v) (hx : VRel ρ x x') :
    ∃ v', (Instr.field t x' f).run P w = .ok v' w ∧ VRel ρ v v' := by
  unfold mfield at h
  split at h
  · rename_i fields cs hu
    split at h
    · rename_i fd hf
      cases hx with
      | agg hx hx' =>
        rename_i cs'
        obtain ⟨v', hv', hr⟩ := mpart_sound (P := P) (w := w) h (lrel_of_array hx hx')
        refine ⟨v', ?_, hr⟩
        simp only [Array.toArray_toList] at hv'
        simp [Instr.field, run_underlying hu, hf, asAgg, hv']
    · simp at h
  · simp at h
theorem mindexAddr_sound (hR : Rel ρ m w) {t : TypeId} {x x' i i' v : Value} (h : mindexAddr P t x i = some v) (hx : VRel ρ x x') (hi : VRel ρ i i') :
    ∃ v', (Instr.indexAt t x' i').run P w = .ok v' w ∧ VRel ρ v v' := by
  unfold mindexAddr at h
  split at h
  · rename_i elem r off len cap k n hu
    cases hi
    split at h
    · rename_i size hs
      split at h
      · rename_i hb
        simp at h; subst h
        cases hx with
        | slice hr h1 h2 h3 h4 h5 =>
          rename_i off' cap' l
          have hoff : off' = l.base + off := by rcases h4 with h4 | h4; · omega
                                                · exact h4
          subst hoff
          refine ⟨_, ?_, .ptr (off := off + n.toNat * size) hr⟩
          simp [Instr.indexAt, asIntOf, run_underlying hu, hb.1, hb.2, run_sizeOf hs, add_eq, Nat.add_assoc]
      · simp at h
    · simp at h
  · rename_i len elem r off k n hu
    cases hi
    split at h
    · rename_i size hs
      split at h
      · rename_i hb
        simp at h; subst h
        cases hx with
        | ptr hr =>
          rename_i l
          refine ⟨_, ?_, .ptr (off := off + n.toNat * size) hr⟩
          simp [Instr.indexAt, asIntOf, run_underlying hu, Instr.sureAddr, hb.1, hb.2, run_sizeOf hs, add_eq, Nat.add_assoc]
      · simp at h
    · simp at h
  · rename_i len elem g off k n hu
    cases hi
    split at h
    · rename_i size hs
      split at h
      · rename_i hb
        simp at h; subst h
        cases hx with
        | gptr =>
          refine ⟨_, ?_, .gptr⟩
          simp [Instr.indexAt, asIntOf, run_underlying hu, Instr.sureAddr, hb.1, hb.2, run_sizeOf hs, add_eq]
      · simp at h
    · simp at h
  · simp at h
theorem mindex_sound {t : TypeId} {x x' i i' v : Value} (h : mindex P t x i = some v) (hx : VRel ρ x x') (hi : VRel ρ i i') :
    ∃ v', (Instr.index t x' i').run P w = .ok v' w ∧ VRel ρ v v' := by
  unfold mindex at h
  split at h
  · rename_i len elem cs k n hu
    cases hi
    split at h
    · rename_i size hs
      split at h
      · rename_i hb
        cases hx with
        | agg hx hx' =>
          rename_i cs'
          obtain ⟨v', hv', hr⟩ := mpart_sound (P := P) (w := w) h (lrel_of_array hx hx')
          refine ⟨v', ?_, hr⟩
          simp only [Array.toArray_toList] at hv'
          simp [Instr.index, asIntOf, run_underlying hu, hb.1, hb.2, run_sizeOf hs, hv']
      · simp at h
    · simp at h
  · rename_i s k n hu
    cases hi; cases hx
    split at h
    · rename_i h0
      cases hb : s[n.toNat]? with
      | none => simp [hb] at h
      | some b =>
        simp [hb] at h; subst h
        exact ⟨_, by simp [Instr.index, asIntOf, run_underlying hu, h0, hb], .int _ _⟩
    · simp at h
  · simp at h
theorem mlen_sound {t : TypeId} {x x' v : Value} {tys : Array TypeId} (ht : tys[0]? = some t) (ty : TypeId) (h : mlen P t x = some v) (hx : VRel ρ x x') :
    (Builtin.len_ tys ty #[x']).run P w = .ok v w ∧ VRel ρ v v := by
  unfold mlen at h
  split at h
  · rename_i s hu
    cases hx; simp at h; subst h
    exact ⟨by simp [Builtin.len_, ht, run_underlying hu, goInt], .int _ _⟩
  · rename_i n e hu
    simp at h; subst h
    exact ⟨by simp [Builtin.len_, ht, run_underlying hu, goInt], .int _ _⟩
  · rename_i e n c hu
    simp at h; subst h
    cases hx <;> exact ⟨by simp [Builtin.len_, ht, run_underlying hu, goInt], .int _ _⟩
  · simp at h
theorem strBytes_length (s : ByteArray) : (strBytes s).length = s.size := by
  unfold strBytes
  rw [List.length_map, Array.length_toList]
  rfl
theorem strBytes_rel (s : ByteArray) (ρ : Map) : LRel ρ (strBytes s) (strBytes s) := by
  refine ⟨rfl, fun i u v hu hv => ?_⟩
  rw [hu] at hv
  obtain rfl := Option.some.inj hv
  simp only [strBytes, List.getElem?_map] at hu
  cases e : s.data.toList[i]? with
  | none => rw [e] at hu; simp at hu
  | some b =>
    rw [e] at hu
    simp only [Option.map_some, Option.some.injEq] at hu
    subst hu
    exact .int _ _
theorem extract_whole (s : ByteArray) : s.extract 0 s.size = s := by
  apply ByteArray.ext
  rw [ByteArray.data_extract]
  exact Array.extract_size
theorem msource_sound (hR : Rel ρ m w) {size : Nat} {x x' : Value} {n : Nat} {cs : List Value} (h : msource m size x = some (n, cs)) (hx : VRel ρ x x') :
    ∃ cs', LRel ρ cs cs' ∧ cs'.length = n * size ∧ (Builtin.lenOf x').run P w = .ok n w ∧ ∀ (n0 : Nat) (_ : n0 = n) (w1 : World) (_ : ∀ a, w1.cell? a = w.cell? a), (Builtin.firstCells size n0 x').run P w1 = .ok cs'.toArray w1 := by
  unfold msource at h
  split at h
  · simp at h
    obtain ⟨rfl, rfl⟩ := h
    cases hx
    exact ⟨[], LRel.nil ρ, by simp, by simp [Builtin.lenOf], fun n0 e w1 _ => by simp [Builtin.firstCells]⟩
  · rename_i s
    split at h
    · rename_i h1
      subst h1
      simp only [Option.some.injEq, Prod.mk.injEq] at h
      obtain ⟨rfl, rfl⟩ := h
      cases hx
      refine ⟨strBytes s, strBytes_rel s ρ, by rw [strBytes_length]; omega, by simp [Builtin.lenOf], fun n0 e w1 _ => ?_⟩
      subst e
      simp only [Builtin.firstCells, Sem.run_pure, Result.ok.injEq, and_true]
      rw [extract_whole]
      apply Array.ext'
      simp [strBytes]
    · simp at h
  · rename_i r off n0 c
    cases hc : mread m r off (n0 * size) with
    | none => simp [hc] at h
    | some l =>
      simp [hc] at h
      obtain ⟨rfl, rfl⟩ := h
      cases hx with
      | slice hr h1 h2 h3 h4 h5 =>
        rename_i off' cap' lc
        rcases h4 with h4 | h4
        · -- no room at all: nothing is read
          have hz : n0 = 0 := by omega
          subst hz
          have hl : l = [] := by
            have := mread_length hc
            exact List.eq_nil_of_length_eq_zero (by simpa using this)
          subst hl
          exact ⟨[], LRel.nil ρ, by simp, by simp [Builtin.lenOf], fun n1 e w1 _ => by subst e; simp [Builtin.firstCells, loadCells, loadCellsFrom]⟩
        · subst h4
          obtain ⟨cs', hl, hk, hcell⟩ := hR.read hr hc
          refine ⟨cs', hl, hk, by simp [Builtin.lenOf], fun n1 e w1 hw1 => ?_⟩
          subst e
          exact run_firstCells_some w1 size n1 ⟨lc.b, lc.base + off, none⟩ n1 cap' cs' hk (fun j v hj => by rw [hw1]; exact hcell j v hj)
  · simp only [Option.some.injEq, Prod.mk.injEq] at h
    obtain ⟨rfl, rfl⟩ := h
    cases hx
    exact ⟨[], LRel.nil ρ, by simp, by simp [Builtin.lenOf], fun n1 e w1 _ => by subst e; simp [Builtin.firstCells, loadCells, loadCellsFrom]⟩
  · rename_i r off n0 c
    cases hc : mread m r off (n0 * size) with
    | none => simp [hc] at h
    | some l =>
      simp [hc] at h
      obtain ⟨rfl, rfl⟩ := h
      cases hx with
      | sliceW hr =>
        rename_i lc
        obtain ⟨cs', hl, hk, hcell⟩ := hR.read hr hc
        refine ⟨cs', hl, hk, by simp [Builtin.lenOf], fun n1 e w1 hw1 => ?_⟩
        subst e
        exact run_firstCells_some w1 size n1 ⟨lc.b, lc.base + off, none⟩ n1 _ cs' hk (fun j v hj => by rw [hw1]; exact hcell j v hj)
  · simp at h
where
  mread_length {m : M} {r off k : Nat} {cs : List Value} (h : mread m r off k = some cs) : cs.length = k := by
    unfold mread at h
    split at h
    · simp at h
    · split at h
      · rename_i hle
        simp at h; subst h
        simp; omega
      · simp at h
theorem mfold_min_sound : ∀ {x x' : Value} {xs xs' : List Value} {v : Value} (_ : VRel ρ x x') (_ : LRel ρ xs xs'), mfold mmin2 x xs = some v → (xs'.foldlM Builtin.min2 x').run P w = .ok v w ∧ VRel ρ v v ∨ (xs = [] ∧ xs' = [] ∧ v = x)
  | x, x', [], ys, v, hx, h, hf => by
    have : ys = [] := by simpa using h.1.symm
    subst this
    simp [mfold] at hf; subst hf
    exact .inr ⟨rfl, rfl, rfl⟩
  | x, x', y :: xs, [], v, hx, h, hf => by have := h.1; simp at this
  | x, x', y :: xs, y' :: xs', v, hx, h, hf => by
    have hy := h.2 0 y y' rfl rfl
    have hxs : LRel ρ xs xs' := ⟨by have := h.1; simpa using this, fun i u v a b => h.2 (i + 1) u v (by simpa using a) (by simpa using b)⟩
    simp only [mfold] at hf
    split at hf
    · rename_i z hz
      unfold mmin2 at hz
      split at hz
      · cases hx; cases hy
        simp at hz; subst hz
        rcases mfold_min_sound (x' := .int _ _) (.int _ _) hxs hf with h1 | ⟨rfl, rfl, rfl⟩
        · refine .inl ⟨?_, h1.2⟩
          simp only [List.foldlM_cons, Sem.run_bind, Builtin.min2, Sem.run_pure, Result.andThen_ok]
          exact h1.1
        · exact .inl ⟨by simp [Builtin.min2], .int _ _⟩
      · simp at hz
    · simp at hf
theorem mfold_max_sound : ∀ {x x' : Value} {xs xs' : List Value} {v : Value} (_ : VRel ρ x x') (_ : LRel ρ xs xs'), mfold mmax2 x xs = some v → (xs'.foldlM Builtin.max2 x').run P w = .ok v w ∧ VRel ρ v v ∨ (xs = [] ∧ xs' = [] ∧ v = x)
  | x, x', [], ys, v, hx, h, hf => by
    have : ys = [] := by simpa using h.1.symm
    subst this
    simp [mfold] at hf; subst hf
    exact .inr ⟨rfl, rfl, rfl⟩
  | x, x', y :: xs, [], v, hx, h, hf => by have := h.1; simp at this
  | x, x', y :: xs, y' :: xs', v, hx, h, hf => by
    have hy := h.2 0 y y' rfl rfl
    have hxs : LRel ρ xs xs' := ⟨by have := h.1; simpa using this, fun i u v a b => h.2 (i + 1) u v (by simpa using a) (by simpa using b)⟩
    simp only [mfold] at hf
    split at hf
    · rename_i z hz
      unfold mmax2 at hz
      split at hz
      · cases hx; cases hy
        simp at hz; subst hz
        rcases mfold_max_sound (x' := .int _ _) (.int _ _) hxs hf with h1 | ⟨rfl, rfl, rfl⟩
        · refine .inl ⟨?_, h1.2⟩
          simp only [List.foldlM_cons, Sem.run_bind, Builtin.max2, Sem.run_pure, Result.andThen_ok]
          exact h1.1
        · exact .inl ⟨by simp [Builtin.max2], .int _ _⟩
      · simp at hz
    · simp at hf
end
end Go.AM
