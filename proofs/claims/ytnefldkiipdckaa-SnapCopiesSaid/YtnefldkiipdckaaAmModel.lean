import Derived.Laws.BytesArg
import Derived.Test.YtnefldkiipdckaaProg
import Derived.WalkKit
import Derived.Test.YtnefldkiipdckaaAmB
import Derived.Test.YtnefldkiipdckaaAmG
set_option linter.unusedVariables false
set_option linter.unusedSimpArgs false
set_option linter.unusedSectionVars false
namespace Go.AM
open Go
universe u v
structure Fr where
 n : Nat
 l : List (Nat × Value)
structure LoopR where
 key : Nat
 T : Fr
 st : LoopState
 pend : Option Code
structure Row where
 esz : Nat
 ex : Bool
 ro : Bool
 cells : List Value
 lp : Option LoopR := none
abbrev M := List Row
inductive Ret where
 | ret (v : Value)
 | pan (v : Value)
inductive MExit where
 | normal
 | exit (id : Nat)
 | ret
 | pan (v : Value)
structure Env where
 P : Program
 pure : FuncId → Bool
 eqt : TypeId → List Nat
 live : FuncId → Nat → Option (List Nat)
def alook : List (Nat × Value) → Nat → Option Value
 | [], _ => none
 | (k, v) :: l, t => match Nat.beq k t with
  | true => some v
  | false => alook l t
def collect (l : List (Nat × Value)) : List Nat → List (Nat × Value)
 | [] => []
 | k :: ks => match alook l k with
  | some v => (k, v) :: collect l ks
  | none => collect l ks
def Fr.trim (T : Fr) (keep : Option (List Nat)) : Fr :=
 match keep with
 | none => T
 | some ks => { T with l := collect T.l ks }
abbrev CallF := Nat → FuncId → List Value → M → Option (Ret × M)
def vsimple : Value → Bool
 | .bool _ | .int _ _ | .float _ _ | .string _ | .pointer none | .slice none 0 0 | .map none | .nilFunc | .nilIface => true
 | _ => false
def vconst (v : Value) : Bool :=
 vsimple v || match v with
  | .agg cs => cs.toList.all vsimple
  | .tuple cs => cs.toList.all vsimple
  | _ => false
def ev (T : Fr) : Operand → Option Value
 | .tmp t => alook T.l t
 | .const v => if vconst v then some v else none
 | .global g => match glook gtabs g with
  | some _ => some (.pointer (some ⟨g, 0, some 0⟩))
  | none => none
 | .func f => some (.func (.func f) #[] #[])
def fNat {β : Sort u} (n : Nat) (k : Nat → β) : β :=
 match n with
 | 0 => k 0
 | n + 1 => k (n + 1)
def fInt {β : Sort u} (n : Int) (k : Int → β) : β :=
 match n with
 | .ofNat a => fNat a fun a => k (.ofNat a)
 | .negSucc a => fNat a fun a => k (.negSucc a)
def fBool {β : Sort u} (b : Bool) (k : Bool → β) : β :=
 match b with
 | true => k true
 | false => k false
def fList {α : Type v} {β : Sort u} : List α → (List α → β) → β
 | [], k => k []
 | x :: xs, k => fList xs fun ys => k (x :: ys)
def fVal {β : Sort u} (v : Value) (k : Value → β) : β :=
 match v with
 | .bool b => fBool b fun b => k (.bool b)
 | .int q n => fInt n fun n => k (.int q n)
 | .pointer (some ⟨b, off, s⟩) => fNat b fun b => fNat off fun off => k (.pointer (some ⟨b, off, s⟩))
 | .slice (some ⟨b, off, s⟩) len cap => fNat b fun b => fNat off fun off => fNat len fun len => fNat cap fun cap => k (.slice (some ⟨b, off, s⟩) len cap)
 | .agg cs => fList cs.toList fun l => k (.agg l.toArray)
 | .tuple cs => fList cs.toList fun l => k (.tuple l.toArray)
 | v => k v
theorem fNat_eq {β : Sort u} (n : Nat) (k : Nat → β) : fNat n k = k n := by cases n <;> rfl
theorem fInt_eq {β : Sort u} (n : Int) (k : Int → β) : fInt n k = k n := by cases n <;> simp only [fInt, fNat_eq]
theorem fBool_eq {β : Sort u} (b : Bool) (k : Bool → β) : fBool b k = k b := by cases b <;> rfl
theorem fList_eq {α : Type v} {β : Sort u} : ∀ (l : List α) (k : List α → β), fList l k = k l
 | [], _ => rfl
 | x :: xs, k => by rw [fList, fList_eq xs]
theorem fVal_eq {β : Sort u} (v : Value) (k : Value → β) : fVal v k = k v := by
 unfold fVal
 split
 ·rw [fBool_eq]
 ·rw [fInt_eq]
 ·simp only [fNat_eq]
 ·simp only [fNat_eq]
 ·rw [fList_eq]
 ·rw [fList_eq]
 ·rfl
def evs (T : Fr) : List Operand → Option (List Value)
 | [] => some []
 | x :: xs => match ev T x with
  | none => none
  | some v => match evs T xs with
   | none => none
   | some vs => some (v :: vs)
def mread (m : M) (r off k : Nat) : Option (List Value) :=
 match m[r]? with
 | none => none
 | some row => if off + k ≤ row.cells.length then some ((row.cells.drop off).take k) else none
def mcell (m : M) (r off : Nat) : Option Value :=
 match m[r]? with
 | none => none
 | some row => row.cells[off]?
def splice (cs : List Value) (off : Nat) (vs : List Value) : List Value := cs.take off ++ vs ++ cs.drop (off + vs.length)
def mwrite (base : Nat) (m : M) (r off : Nat) (vs : List Value) : Option M :=
 if r < base then none else
 match m[r]? with
 | none => none
 | some row =>
  if row.ro then none else
  if off + vs.length ≤ row.cells.length then
   if vs.all (·.oneCell') then fList (splice row.cells off vs) fun cells => fList (m.set r { row with cells := cells }) some else none
  else none
def mkill (base : Nat) (m : M) (r : Nat) : Option M :=
 if r < base then none else
 match m[r]? with
 | none => none
 | some row => if row.ro then none else fList (m.set r { row with cells := [] }) some
def isAggB (P : Program) (t : TypeId) : Option Bool :=
 match P.underlying t with
 | some (.struct _) | some (.array _ _) => some true
 | some _ => some false
 | none => none
def szOf (P : Program) (t : TypeId) : Option Nat := (P.info? t).map (·.size)
def gread (g off k : Nat) : Option (List Value) :=
 match glook gtabs g with
 | none => none
 | some l => if off + k ≤ l.length then (if ((l.drop off).take k).all vsimple then some ((l.drop off).take k) else none) else none
def gload (P : Program) (t : TypeId) (g off : Nat) : Option Value :=
 match isAggB P t with
 | some true => match szOf P t with
  | some n => (gread g off n).map fun cs => .agg cs.toArray
  | none => none
 | some false => match gread g off 1 with
  | some [v] => some v
  | _ => none
 | none => none
def mload (P : Program) (m : M) (t : TypeId) (a : Value) : Option Value :=
 match a with
 | .pointer (some ⟨r, off, none⟩) =>
  match isAggB P t with
  | some true => match szOf P t with
   | some n => (mread m r off n).map fun cs => .agg cs.toArray
   | none => none
  | some false => mcell m r off
  | none => none
 | .pointer (some ⟨g, off, some 0⟩) => gload P t g off
 | _ => none
def mstore (P : Program) (base : Nat) (m : M) (t : TypeId) (a v : Value) : Option M :=
 match a with
 | .pointer (some ⟨r, off, none⟩) =>
  match szOf P t with
  | some n => if v.cells.size = n then mwrite base m r off v.cells.toList else none
  | none => none
 | _ => none
def mint (op : BinOp) (k : IntKind) (x y : Int) : Option Value :=
 match op with
 | .add => some (.int k (k.wrap (x + y)))
 | .sub => some (.int k (k.wrap (x - y)))
 | .mul => some (.int k (k.wrap (x * y)))
 | .quo => if y = 0 then none else some (.int k (k.wrap (x.tdiv y)))
 | .rem => if y = 0 then none else some (.int k (x.tmod y))
 | .and => some (.int k (k.wrap (BitVec.ofInt k.bits x &&& BitVec.ofInt k.bits y).toNat))
 | .or => some (.int k (k.wrap (BitVec.ofInt k.bits x ||| BitVec.ofInt k.bits y).toNat))
 | .xor => some (.int k (k.wrap (BitVec.ofInt k.bits x ^^^ BitVec.ofInt k.bits y).toNat))
 | .andNot => some (.int k (k.wrap (BitVec.ofInt k.bits x &&& ~~~(BitVec.ofInt k.bits y)).toNat))
 | .eql => some (.bool (x == y))
 | .neq => some (.bool (x != y))
 | .lss => some (.bool (x < y))
 | .leq => some (.bool (x ≤ y))
 | .gtr => some (.bool (x > y))
 | .geq => some (.bool (x ≥ y))
 | _ => none
def mstr (op : BinOp) (x y : ByteArray) : Option Value :=
 match op with
 | .add => if x.size + y.size ≤ 4611686018427387904 then some (.string (x ++ y)) else none
 | .eql => some (.bool (x.toList == y.toList))
 | .neq => some (.bool !(x.toList == y.toList))
 | .lss => some (.bool (Op.bytesLess x.toList y.toList))
 | _ => none
def ceq : Nat → Value → Value → Option Bool
 | 0, .int k a, .int k' b => if k = k' then some (a == b) else none
 | 1, .bool a, .bool b => some (a == b)
 | _, _, _ => none
def ceqs (xs ys : List Value) : List Nat → Option Bool
 | [] => some true
 | i :: is => match xs[i / 2]?, ys[i / 2]? with
  | some x, some y => match ceq (i % 2) x y with
   | some true => ceqs xs ys is
   | some false => some false
   | none => none
  | _, _ => none
def mbin (E : Env) (op : BinOp) (t : TypeId) (x y : Value) : Option Value :=
 match x, y with
 | .int k a, .int k' b =>
  match op with
  | .shl => if b < 0 then none else some (.int k (k.wrap (a * 2 ^ (min b.toNat k.bits))))
  | .shr => if b < 0 then none else some (.int k (a.fdiv (2 ^ (min b.toNat k.bits))))
  | _ => if k = k' then mint op k a b else none
 | .string a, .string b => mstr op a b
 | .bool a, .bool b =>
  match E.P.underlying t with
  | some .bool => match op with
   | .eql => some (.bool (a == b))
   | .neq => some (.bool (!(a == b)))
   | _ => none
  | _ => none
 | .slice a _ _, .slice none 0 0 =>
  match E.P.underlying t with
  | some (.slice _) => match op with
   | .eql => some (.bool a.isNone)
   | .neq => some (.bool (!a.isNone))
   | _ => none
  | _ => none
 | .pointer a, .pointer none =>
  match E.P.underlying t with
  | some (.pointer _) => match op with
   | .eql => some (.bool a.isNone)
   | .neq => some (.bool (!a.isNone))
   | _ => none
  | _ => none
 | .agg xs, .agg ys =>
  match E.eqt t with
  | [] => none
  | is => match op with
   | .eql => (ceqs xs.toList ys.toList is).map .bool
   | .neq => (ceqs xs.toList ys.toList is).map fun b => .bool (!b)
   | _ => none
 | _, _ => none
def mun (op : UnOp) (x : Value) : Option Value :=
 match op, x with
 | .neg, .int k n => some (.int k (k.wrap (0 - n)))
 | .xor, .int k n => some (.int k (k.wrap (BitVec.ofInt k.bits (if k.signed then -1 else k.max) ^^^ BitVec.ofInt k.bits n).toNat))
 | .not, .bool b => some (.bool !b)
 | _, _ => none
def evParts (T : Fr) : List (Nat × Operand) → Option (List (Nat × Value))
 | [] => some []
 | (i, x) :: xs => match ev T x with
  | none => none
  | some v => match evParts T xs with
   | none => none
   | some vs => some ((i, v) :: vs)
def zeroOf (P : Program) (t : TypeId) : Option Value :=
 match P.info? t with
 | some i => match i.zero with
  | some z => if vconst z then some z else none
  | none => none
 | none => none
def placesOf (P : Program) : List Field → Option (List (Nat × Nat))
 | [] => some []
 | f :: fs => match szOf P f.type with
  | none => none
  | some n => match placesOf P fs with
   | none => none
   | some ps => some ((f.offset, n) :: ps)
def mbuild (P : Program) (t : TypeId) (parts : List (Nat × Value)) : Option Value :=
 match zeroOf P t with
 | none => none
 | some z =>
  match P.underlying t with
  | some (.struct fields) => match placesOf P fields.toList with
   | none => none
   | some ps => (Instr.fill (ps.toArray[·]?) z.cells parts).map .agg
  | some (.array _ elem) => match szOf P elem with
   | none => none
   | some size => (Instr.fill (fun i => some (i * size, size)) z.cells parts).map .agg
  | _ => none
def repCells (zero : List Value) : Nat → List Value
 | 0 => []
 | n + 1 => zero ++ repCells zero n
def mbuildSlice (P : Program) (m : M) (t : TypeId) (len : Nat) (parts : List (Nat × Value)) : Option (Value × M) :=
 match P.underlying t with
 | some (.slice elem) =>
  match szOf P elem, zeroOf P elem with
  | some size, some z =>
   if size = 0 then none else
   if z.cells.size ≠ size then none else
   if len * size > 2 ^ 24 then none else
   match Instr.fill (fun i => some (i * size, size)) (repCells z.cells.toList len).toArray parts with
   | none => none
   | some cells => fNat m.length fun n => fList cells.toList fun cs => fList (m ++ [{ esz := size, ex := true, ro := false, cells := cs }]) fun m' => some (.slice (some ⟨n, 0, none⟩) len len, m')
  | _, _ => none
 | _ => none
def mmakeSlice (P : Program) (m : M) (t : TypeId) (l c : Value) : Option (Value × M) :=
 match P.underlying t, l, c with
 | some (.slice elem), .int .i64 l, .int .i64 c =>
  match P.info? elem, zeroOf P elem with
  | some i, some z =>
   if i.size = 0 ∨ z.cells.size ≠ i.size then none else
   if l < 0 ∨ c < l ∨ c > 2 ^ 39 ∨ i.bytes > 2 ^ 8 then none else
   fNat m.length fun n => fNat l.toNat fun l => fNat c.toNat fun c => fList (repCells z.cells.toList c) fun cs =>
    fList (m ++ [{ esz := i.size, ex := true, ro := false, cells := cs }]) fun m' => some (.slice (some ⟨n, 0, none⟩) l c, m')
  | _, _ => none
 | _, _, _ => none
def optNat (y : Nat) : Option Value → Option Nat
 | none => some y
 | some (.int _ i) => if 0 ≤ i then some i.toNat else none
 | some _ => none
def mslice (P : Program) (m : M) (t : TypeId) (x : Value) (lo hi mx : Option Value) : Option Value :=
 match P.underlying t, x, mx with
 | some (.slice elem), .slice a len cap, none =>
  match optNat 0 lo, optNat len hi, szOf P elem with
  | some l, some h, some size =>
   if h ≤ cap ∧ l ≤ h then
    match a with
    | none => some (.slice none 0 0)
    | some ⟨r, off, none⟩ => match m[r]? with
     | some row => if row.esz = size then some (.slice (some ⟨r, off + l * size, none⟩) (h - l) (cap - l)) else none
     | none => none
    | _ => none
   else none
  | _, _, _ => none
 | some (.slice elem), .slice a len cap, some b =>
  match lo, hi, b, szOf P elem with
  | none, some (.int _ h), .int _ k, some size =>
   if h = k ∧ 0 ≤ k ∧ k ≤ (cap : Int) then
    match a with
    | none => some (.slice none 0 0)
    | some ⟨r, off, none⟩ => match m[r]? with
     | some row => if row.esz = size then some (.slice (some ⟨r, off, some 0⟩) k.toNat k.toNat) else none
     | none => none
    | _ => none
   else none
  | _, _, _, _ => none
 | some (.array n elem), .pointer (some ⟨r, off, none⟩), none =>
  match lo, optNat n hi, szOf P elem with
  | none, some h, some _ => if h ≤ n then some (.slice (some ⟨r, off, some 2⟩) h n) else none
  | _, _, _ => none
 | some .string, .string s, none =>
  match optNat 0 lo, optNat s.size hi with
  | some l, some h => if h ≤ s.size ∧ l ≤ h then some (.string (s.extract l h)) else none
  | _, _ => none
 | _, _, _ => none
def mfieldAddr (P : Program) (s : TypeId) (x : Value) (f : Nat) : Option Value :=
 match P.underlying s, x with
 | some (.struct fields), .pointer (some ⟨r, off, none⟩) =>
  match fields[f]? with
  | some fd => match szOf P fd.type with
   | some (_ + 1) => some (.pointer (some ⟨r, off + fd.offset, none⟩))
   | _ => none
  | none => none
 | some (.struct fields), .pointer (some ⟨g, off, some 0⟩) =>
  match fields[f]? with
  | some fd => match szOf P fd.type with
   | some (_ + 1) => some (.pointer (some ⟨g, off + fd.offset, some 0⟩))
   | _ => none
  | none => none
 | _, _ => none
def mpart (P : Program) (t : TypeId) (cs : List Value) (off : Nat) : Option Value :=
 match isAggB P t with
 | some true => match szOf P t with
  | some n => if off + n ≤ cs.length then some (.agg ((cs.drop off).take n).toArray) else none
  | none => none
 | some false => cs[off]?
 | none => none
def mfield (P : Program) (t : TypeId) (x : Value) (f : Nat) : Option Value :=
 match P.underlying t, x with
 | some (.struct fields), .agg cs =>
  match fields[f]? with
  | some fd => mpart P fd.type cs.toList fd.offset
  | none => none
 | _, _ => none
def mindexAddr (P : Program) (t : TypeId) (x ix : Value) : Option Value :=
 match P.underlying t, x, ix with
 | some (.slice elem), .slice (some ⟨r, off, none⟩) len _, .int _ i =>
  match szOf P elem with
  | some size => if 0 ≤ i ∧ i < len then some (.pointer (some ⟨r, off + i.toNat * size, none⟩)) else none
  | none => none
 | some (.array len elem), .pointer (some ⟨r, off, none⟩), .int _ i =>
  match szOf P elem with
  | some size => if 0 ≤ i ∧ i < len then some (.pointer (some ⟨r, off + i.toNat * size, none⟩)) else none
  | none => none
 | some (.array len elem), .pointer (some ⟨g, off, some 0⟩), .int _ i =>
  match szOf P elem with
  | some size => if 0 ≤ i ∧ i < len then some (.pointer (some ⟨g, off + i.toNat * size, some 0⟩)) else none
  | none => none
 | some (.slice elem), .slice (some ⟨r, off, some 2⟩) len _, .int _ i =>
  match szOf P elem with
  | some size => if 0 ≤ i ∧ i < len then some (.pointer (some ⟨r, off + i.toNat * size, none⟩)) else none
  | none => none
 | _, _, _ => none
def mindex (P : Program) (t : TypeId) (x ix : Value) : Option Value :=
 match P.underlying t, x, ix with
 | some (.array len elem), .agg cs, .int _ i =>
  match szOf P elem with
  | some size => if 0 ≤ i ∧ i < len then mpart P elem cs.toList (i.toNat * size) else none
  | none => none
 | some .string, .string s, .int _ i =>
  if 0 ≤ i then (s[i.toNat]?).map fun b => .int .u8 b.toNat else none
 | _, _, _ => none
def mlen (P : Program) (t : TypeId) (x : Value) : Option Value :=
 match P.underlying t, x with
 | some .string, .string s => some (.int .i64 s.size)
 | some (.array n _), _ => some (.int .i64 n)
 | some (.slice _), .slice _ n _ => some (.int .i64 n)
 | _, _ => none
def strBytes (s : ByteArray) : List Value := s.data.toList.map fun b => .int .u8 (b.toNat : Int)
def srcOk (P : Program) (u : TypeId) : Bool := match P.underlying u with
 | some (.slice _) => true
 | some .string => true
 | _ => false
def msource (m : M) (size : Nat) : Value → Option (Nat × List Value)
 | .slice none 0 0 => some (0, [])
 | .string s => if size = 1 then some (s.size, strBytes s) else none
 | .slice (some ⟨r, off, none⟩) n _ => (mread m r off (n * size)).map fun cs => (n, cs)
 | .slice (some ⟨0, 0, some 1⟩) 0 0 => some (0, [])
 | .slice (some ⟨r, off, some 2⟩) n _ => (mread m r off (n * size)).map fun cs => (n, cs)
 | _ => none
def mzeros (P : Program) (m : M) (elem u : TypeId) (s x : Value) : Option (Value × M) :=
 match P.underlying u, s, x, P.info? elem, zeroOf P elem with
 | some (.int _), .slice none 0 0, .int _ n, some i, some z =>
  if i.size = 0 ∨ i.bytes > 2 ^ 8 ∨ z.cells.size ≠ i.size ∨ n < 1 ∨ n > 2 ^ 38 then none else
  fNat m.length fun k => fNat n.toNat fun c => fList (repCells z.cells.toList c) fun cs => fList (m ++ [{ esz := i.size, ex := false, ro := false, cells := cs }]) fun m' => some (.slice (some ⟨k, 0, none⟩) c c, m')
 | _, _, _, _, _ => none
def mappend (P : Program) (base : Nat) (m : M) (tys : List TypeId) (s x : Value) : Option (Value × M) :=
 match tys with
 | [t, u] =>
  match P.underlying t, srcOk P u with
  | some (.slice elem), true =>
   match P.info? elem, zeroOf P elem with
   | some i, some z =>
    if i.size = 0 ∨ i.bytes > 2 ^ 8 ∨ z.cells.size ≠ i.size then none else
    match msource m i.size x with
    | none => none
    | some (n, news) =>
     match s with
     | .slice none 0 0 =>
      if n = 0 then some (s, m) else
      if n > 2 ^ 38 then none else
      fNat m.length fun k => fList news fun cs => fList (m ++ [{ esz := i.size, ex := false, ro := false, cells := cs }]) fun m' => some (.slice (some ⟨k, 0, none⟩) n n, m')
     | .slice (some ⟨r, off, none⟩) len cap =>
      if len + n ≤ cap then
       if n = 0 then some (s, m) else
       (mwrite base m r (off + len * i.size) news).bind fun m' => fNat (len + n) fun k => some (.slice (some ⟨r, off, none⟩) k cap, m')
      else
       if len + n > 2 ^ 38 then none else
       match m[r]?, mread m r off (len * i.size) with
       | some row, some olds =>
        if row.esz ≠ i.size then none else
        fNat m.length fun k => fNat (len + n) fun c => fList (olds ++ news) fun cs =>
        let new : Row := { esz := i.size, ex := false, ro := false, cells := cs }
        if row.ex then fList (m ++ [new]) fun m' => some (.slice (some ⟨k, 0, none⟩) c c, m')
        else if row.cells.isEmpty then none
        else if news.all (·.oneCell') then (mkill base m r).bind fun m' => fList (m' ++ [new]) fun m' => some (.slice (some ⟨k, 0, none⟩) c c, m')
        else none
       | _, _ => none
     | .slice (some ⟨r, off, some 0⟩) len cap =>
      if n = 0 then some (s, m) else
      if len ≠ cap then none else
      if len + n > 2 ^ 38 then none else
      match m[r]?, mread m r off (len * i.size) with
      | some row, some olds =>
       if row.esz ≠ i.size then none else
       fNat m.length fun k => fNat (len + n) fun c => fList (olds ++ news) fun cs =>
       fList (m ++ [{ esz := i.size, ex := false, ro := false, cells := cs }]) fun m' => some (.slice (some ⟨k, 0, none⟩) c c, m')
      | _, _ => none
     | _ => none
   | _, _ => none
  | some (.slice elem), false => mzeros P m elem u s x
  | _, _ => none
 | _ => none
def mcap (P : Program) (m : M) (t : TypeId) (x : Value) : Option Value :=
 match P.underlying t, x with
 | some (.slice _), .slice none 0 0 => some (.int .i64 0)
 | some (.slice _), .slice (some ⟨r, _, none⟩) _ c => match m[r]? with
  | some row => if row.ex then some (.int .i64 c) else none
  | none => none
 | _, _ => none
def mclear (P : Program) (base : Nat) (m : M) (t : TypeId) (x : Value) : Option (Value × M) :=
 match P.underlying t with
 | some (.slice elem) =>
  match zeroOf P elem with
  | some z =>
   if z.cells.size = 0 then none else
   match x with
   | .slice none 0 0 => some (.tuple #[], m)
   | .slice (some ⟨r, off, none⟩) n _ => (mwrite base m r off (repCells z.cells.toList n)).map fun m' => (.tuple #[], m')
   | _ => none
  | none => none
 | _ => none
def mcopy (P : Program) (base : Nat) (m : M) (tys : List TypeId) (d x : Value) : Option (Value × M) :=
 match tys with
 | [t, _] =>
  match P.underlying t with
  | some (.slice elem) =>
   match szOf P elem with
   | some size =>
    if size = 0 then none else
    match d, x with
    | .slice (some ⟨r, off, none⟩) dl _, .slice (some ⟨r', off', none⟩) sl _ =>
     match mread m r' off' (min sl dl * size) with
     | none => none
     | some cs => (mwrite base m r off cs).map fun m' => (.int .i64 ((min sl dl : Nat) : Int), m')
    | .slice none 0 0, .slice _ _ _ => some (.int .i64 0, m)
    | .slice (some _) _ _, .slice none 0 0 => some (.int .i64 0, m)
    | _, _ => none
   | none => none
  | _ => none
 | _ => none
def mmin2 : Value → Value → Option Value
 | .int k x, .int _ y => some (.int k (if y < x then y else x))
 | _, _ => none
def mmax2 : Value → Value → Option Value
 | .int k x, .int _ y => some (.int k (if y > x then y else x))
 | _, _ => none
def mfold (f : Value → Value → Option Value) : Value → List Value → Option Value
 | x, [] => some x
 | x, y :: ys => match f x y with
  | some z => mfold f z ys
  | none => none
def mconvert (P : Program) (src dst : TypeId) (x : Value) : Option Value :=
 match P.underlying src, P.underlying dst, x with
 | some (.int _), some (.int k), .int _ n => some (.int k (k.wrap n))
 | some .string, some .string, .string s => some (.string s)
 | _, _, _ => none
def bytesOf : List Value → Option (List Int)
 | [] => some []
 | .int .u8 n :: vs => match bytesOf vs with
  | some l => some (n :: l)
  | none => none
 | _ => none
def mbytes (P : Program) (m : M) (src dst : TypeId) (x : Value) : Option Value :=
 match P.underlying src, P.underlying dst, x with
 | some (.slice e), some .string, .slice none _ _ => match P.underlying e with
  | some (.int .u8) => some (.string .empty)
  | _ => none
 | some (.slice e), some .string, .slice (some ⟨r, off, none⟩) len _ => match P.underlying e with
  | some (.int .u8) => match mread m r off len with
   | some cs => match bytesOf cs with
    | some l => some (.string (strOfNums l))
    | none => none
   | none => none
  | _ => none
 | _, _, _ => none
def mconv (P : Program) (m : M) (src dst : TypeId) (x : Value) : Option Value :=
 match bslices.contains src with
 | true => mbytes P m src dst x
 | false => mconvert P src dst x
def with1 (T : Fr) (x : Operand) (m : M) (f : Value → Option Value) : Option (Value × M) :=
 match ev T x with
 | some v => match f v with
  | some r => fVal r fun r => some (r, m)
  | none => none
 | none => none
def with2 (T : Fr) (x y : Operand) (m : M) (f : Value → Value → Option Value) : Option (Value × M) :=
 match ev T x with
 | some v => match ev T y with
  | some u => match f v u with
   | some r => fVal r fun r => some (r, m)
   | none => none
  | none => none
 | none => none
def mpick : Value → Value → Value → Option Value
 | .bool true, a, _ => some a
 | .bool false, _, b => some b
 | _, _, _ => none
def opick (T : Fr) (m : M) (c a b : Operand) : Option (Value × M) :=
 match ev T c with
 | some c => match ev T a with
  | some a => match ev T b with
   | some b => match mpick c a b with
    | some v => some (v, m)
    | none => none
   | none => none
  | none => none
 | none => none
def oalloc (P : Program) (m : M) (t : TypeId) : Option (Value × M) :=
 match zeroOf P t with
 | some z => fNat m.length fun n => fList z.cells.toList fun cs => fList (m ++ [{ esz := 0, ex := true, ro := false, cells := cs }]) fun m' => some (.pointer (some ⟨n, 0, none⟩), m')
 | none => none
def vbox (m : M) (v : Value) : Option (Value × M) :=
 fNat m.length fun n => fList v.cells.toList fun cs => fList (m ++ [{ esz := 0, ex := true, ro := false, cells := cs }]) fun m' => some (.pointer (some ⟨n, 0, none⟩), m')
def obox (T : Fr) (m : M) (x : Operand) : Option (Value × M) :=
 match ev T x with
 | some v => vbox m v
 | none => none
def omove (T : Fr) (m : M) (x : Operand) : Option (Value × M) :=
 match ev T x with
 | some v => some (v, m)
 | none => none
def obuild (P : Program) (T : Fr) (m : M) (t : TypeId) (parts : List (Nat × Operand)) : Option (Value × M) :=
 match evParts T parts with
 | some ps => match mbuild P t ps with
  | some v => fVal v fun v => some (v, m)
  | none => none
 | none => none
def obuildSlice (P : Program) (T : Fr) (m : M) (t : TypeId) (len : Nat) (parts : List (Nat × Operand)) : Option (Value × M) :=
 match evParts T parts with
 | some ps => mbuildSlice P m t len ps
 | none => none
def ostore (P : Program) (base : Nat) (T : Fr) (m : M) (t : TypeId) (a x : Operand) : Option (Value × M) :=
 match ev T a with
 | some p => match ev T x with
  | some v => match mstore P base m t p v with
   | some m' => some (undef, m')
   | none => none
  | none => none
 | none => none
def mnil : Value → Option Value
 | .pointer (some a) => some (.pointer (some a))
 | .func (.func f) x y => some (.func (.func f) x y)
 | _ => none
def omakeFunc (T : Fr) (m : M) (fn : Fn) (first captured : List Operand) : Option (Value × M) :=
 match fn with
 | .func f => match evs T first with
  | some a => match evs T captured with
   | some b => some (.func (.func f) a.toArray b.toArray, m)
   | none => none
  | none => none
 | _ => none
def omakeSlice (P : Program) (T : Fr) (m : M) (t : TypeId) (l c : Operand) : Option (Value × M) :=
 match ev T l with
 | some l => match ev T c with
  | some c => mmakeSlice P m t l c
  | none => none
 | none => none
def evOpt (T : Fr) : Option Operand → Option (Option Value)
 | none => some none
 | some p => match ev T p with
  | some v => some (some v)
  | none => none
def oslice (P : Program) (T : Fr) (m : M) (t : TypeId) (x : Operand) (lo hi mx : Option Operand) : Option (Value × M) :=
 match ev T x with
 | some v => match evOpt T lo with
  | some lo => match evOpt T hi with
   | some hi => match evOpt T mx with
    | some mx => match mslice P m t v lo hi mx with
     | some r => fVal r fun r => some (r, m)
     | none => none
    | none => none
   | none => none
  | none => none
 | none => none
def mextract (i : Nat) : Value → Option Value
 | .tuple vs => vs[i]?
 | _ => none
def obuiltin (P : Program) (base : Nat) (m : M) (b : Builtin) (tys : List TypeId) (vs : List Value) : Option (Value × M) :=
 match b with
 | .len => match tys, vs with
  | t :: _, [x] => match mlen P t x with
   | some r => fVal r fun r => some (r, m)
   | none => none
  | _, _ => none
 | .append => match vs with
  | [s, x] => mappend P base m tys s x
  | _ => none
 | .copy => match vs with
  | [d, x] => mcopy P base m tys d x
  | _ => none
 | .cap => match tys, vs with
  | t :: _, [x] => match mcap P m t x with
   | some r => fVal r fun r => some (r, m)
   | none => none
  | _, _ => none
 | .clear => match tys, vs with
  | t :: _, [x] => mclear P base m t x
  | _, _ => none
 | .min => match vs with
  | x :: xs => match mfold mmin2 x xs with
   | some r => fVal r fun r => some (r, m)
   | none => none
  | _ => none
 | .max => match vs with
  | x :: xs => match mfold mmax2 x xs with
   | some r => fVal r fun r => some (r, m)
   | none => none
  | _ => none
 | _ => none
def ocall (P : Program) (base : Nat) (T : Fr) (m : M) (c : Call) : Option (Value × M) :=
 match c.callee with
 | .builtin b => match evs T c.args.toList with
  | some vs => obuiltin P base m b c.argTypes.toList vs
  | none => none
 | _ => none
def miface (P : Program) (t : TypeId) (v : Value) : Option Value := match P.underlying t with
 | some (.interface _) => none
 | some _ => some (.iface t v)
 | none => none
def mtassert (P : Program) (a : TypeId) (ok : Bool) (x : Value) : Option Value := match P.underlying a with
 | some (.interface _) => none
 | some _ => match x with
  | .iface t v => match Nat.beq t a with
   | true => match ok with
    | true => some (.tuple #[v, .bool true])
    | false => some v
   | false => match ok, zeroOf P a with
    | true, some z => some (.tuple #[z, .bool false])
    | _, _ => none
  | .nilIface => match ok, zeroOf P a with
   | true, some z => some (.tuple #[z, .bool false])
   | _, _ => none
  | _ => none
 | none => none
def mlook : List (TypeId × Nat × FuncId) → TypeId → Nat → Option FuncId
 | [], _, _ => none
 | (a, b, f) :: l, t, n => match Nat.beq a t with
  | true => match Nat.beq b n with
   | true => some f
   | false => mlook l t n
  | false => mlook l t n
def imeth (n : Nat) (v : Value) : Value := match v with
 | .iface t x => match mlook gmeths t n with
  | some f => .func (.func f) #[x] #[]
  | none => .nilFunc
 | _ => .nilFunc
def mpure (E : Env) (base : Nat) (T : Fr) (m : M) : Op → Option (Value × M)
 | .move x => omove T m x
 | .assign x => omove T m x
 | .pick c a b => opick T m c a b
 | .alloc t => oalloc E.P m t
 | .box _ x => obox T m x
 | .build t parts => obuild E.P T m t parts.toList
 | .buildSlice t len parts => obuildSlice E.P T m t len parts.toList
 | .load t a => with1 T a m (mload E.P m t)
 | .store t a x => ostore E.P base T m t a x
 | .nilCheck x => with1 T x m mnil
 | .binOp op t x y _ => with2 T x y m (mbin E op t)
 | .unOp op _ x => with1 T x m (mun op)
 | .convert src dst x => with1 T x m (mconv E.P m src dst)
 | .makeFunc fn first captured => omakeFunc T m fn first.toList captured.toList
 | .makeSlice t l c => omakeSlice E.P T m t l c
 | .slice t x lo hi mx => oslice E.P T m t x lo hi mx
 | .fieldAddr s x f => with1 T x m fun v => mfieldAddr E.P s v f
 | .field t x f => with1 T x m fun v => mfield E.P t v f
 | .indexAddr t x i => with2 T x i m (mindexAddr E.P t)
 | .index t x i => with2 T x i m (mindex E.P t)
 | .extract x i => with1 T x m (mextract i)
 | .makeInterface t x => with1 T x m (miface E.P t)
 | .typeAssert x _ a ok => with1 T x m (mtassert E.P a ok)
 | .call c => ocall E.P base T m c
 | _ => none
abbrev yid : FuncId := 1000000
def mtarget (T : Fr) : Op → Option (FuncId × List Value)
 | .call c => match c.callee with
  | .invoke r nm => match ev T r, evs T c.args.toList with
   | some (.iface t v), some vs => match mlook gmeths t (gname nm) with
    | some f => match Nat.beq f yid with
     | true => none
     | false => some (f, v :: vs)
    | none => none
   | _, _ => none
  | .value f => match ev T f, evs T c.args.toList with
   | some (.func (.func f) first captured), some vs => match Nat.beq f yid with
    | true => none
    | false => some (f, first.toList ++ vs ++ captured.toList)
   | some (.func (.yield y) ⟨[]⟩ ⟨[]⟩), some vs => some (yid, .func (.yield y) #[] #[] :: vs)
   | _, _ => none
  | _ => none
 | _ => none
inductive ORes where
 | val (v : Value) (m : M)
 | pan (v : Value) (m : M)
def mop (E : Env) (call : CallF) (base : Nat) (T : Fr) (m : M) (op : Op) : Option ORes :=
 match mtarget T op with
 | some (f, vs) => match call base f vs m with
  | some (.ret v, m') => some (.val v m')
  | some (.pan v, m') => some (.pan v m')
  | none => none
 | none => match mpure E base T m op with
  | some (v, m') => some (.val v m')
  | none => none
def mwanted (ops : List Oper) (T : Fr) (o : Oper) : Option Bool :=
 match o.guard with
 | none => some true
 | some (j, want) => match (ops[j]?).bind (·.dst) with
  | none => some false
  | some d => match alook T.l d with
   | some (.bool b) => some (b == want)
   | some (.tuple ⟨[]⟩) => some false
   | _ => none
def mput (T : Fr) (dst : Option Tmp) (v : Value) : Fr :=
 match dst with
 | some d => match Nat.ble T.n d with
  | true => T
  | false => { T with l := (d, v) :: T.l }
 | none => T
def mops (E : Env) (call : CallF) (base : Nat) (all : List Oper) : List Oper → Fr → M → Option (MExit × Fr × M)
 | [], T, m => some (.normal, T, m)
 | o :: os, T, m =>
  match mwanted all T o with
  | some true => match mop E call base T m o.op with
   | some (.val v m') => mops E call base all os (mput T o.dst v) m'
   | some (.pan v m') => some (.pan v, T, m')
   | none => none
  | some false => mops E call base all os (mput T o.dst undef) m
  | none => none
abbrev St := Fr × M
def mloop (body : St → Option (MExit × St)) : Nat → St → Option (MExit × St)
 | 0, _ => none
 | n + 1, s => match body s with
  | some (.normal, s') => mloop body n s'
  | r => r
def isV : Op → Bool
 | .move _ | .assign _ | .pick .. | .build .. | .nilCheck _ | .binOp .. | .unOp .. | .makeFunc .. | .fieldAddr .. | .field .. | .indexAddr .. | .index .. | .extract .. | .makeInterface .. | .typeAssert .. => true
 | .convert s _ _ => !bslices.contains s
 | .call { callee := .builtin .len, .. } | .call { callee := .builtin .min, .. } | .call { callee := .builtin .max, .. } => true
 | _ => false
def isAppend : Op → Bool
 | .call { callee := .builtin .append, .. } => true
 | _ => false
def isWriter : Op → Bool
 | .store .. => true
 | .call { callee := .builtin .append, .. } | .call { callee := .builtin .copy, .. } | .call { callee := .builtin .clear, .. } => true
 | .call { callee := .value (.func f), .. } => wcalls.contains f
 | .call { callee := .value (.tmp _), argTypes := ts, .. } => wdyn.contains ts.toList
 | _ => false
def isAlloc : Op → Bool
 | .alloc _ => true
 | _ => false
def isPlain (e : Edge) : Bool := match e.ground with
 | .textOnly _ | .gcOnly _ => false
 | _ => true
def predsOf (acc : List Nat) (o : Oper) : Nat :=
 o.after.toList.foldl (fun s e => if isPlain e then s ||| (1 <<< e.on) ||| acc.getD e.on 0 else s) 0
def preds : List Oper → List Nat → List Nat
 | [], acc => acc
 | o :: os, acc => preds os (acc ++ [predsOf acc o])
def isOrdered (ps : List Nat) (i j : Nat) : Bool := if i < j then (ps.getD j 0).testBit i else (ps.getD i 0).testBit j
def tmpsOf : List Operand → List Tmp
 | [] => []
 | .tmp t :: xs => t :: tmpsOf xs
 | _ :: xs => tmpsOf xs
def guardTmp (ops : List Oper) (o : Oper) : List Tmp := match o.guard with
 | none => []
 | some (j, _) => match (ops[j]?).bind (·.dst) with
  | some d => [d]
  | none => []
def usesOf (ops : List Oper) (o : Oper) : List Tmp := tmpsOf o.op.operands.toList ++ guardTmp ops o
def namesOf (ops : List Oper) (o : Oper) : List Tmp := o.dst.toList ++ usesOf ops o
def isLoad : Op → Bool
 | .load .. => true
 | _ => false
def isStore : Op → Bool
 | .store .. => true
 | _ => false
def isQ (op : Op) : Bool := isV op || isLoad op
def between (ops : List Oper) (j i : Nat) : Bool := ops.zipIdx.all fun (o, k) => (!Nat.blt k j || isQ o.op) && (!(Nat.blt j k && Nat.blt k i) || !isWriter o.op)
def quietTo (ops : List Oper) (j : Nat) : Bool := ops.zipIdx.all fun (o, k) => !Nat.blt k j || isQ o.op
def keptTo (ops : List Oper) (j i : Nat) (a : Operand) : Bool := match a with
 | .tmp t => ops.zipIdx.all fun (o, k) => !(Nat.ble j k && Nat.blt k i) || !(o.dst == some t)
 | _ => true
def xaddrOf : Op → Option Operand
 | .load _ a => some a
 | _ => none
def keptAddr (ops : List Oper) (j i : Nat) (op : Op) : Bool := match xaddrOf op with
 | some a => keptTo ops j i a
 | none => false
def xpair (ops : List Oper) (i j : Nat) (o o' : Oper) : Bool := (isLoad o'.op && Nat.blt j i) && ((!xstores && xloads && isAppend o.op && between ops j i) || (xstores && (isStore o.op || isAppend o.op) && quietTo ops j && keptAddr ops j i o'.op))
def isW (ops : List Oper) (ps : List Nat) (i : Nat) (o : Oper) : Bool :=
 isWriter o.op && (!isAppend o.op || ops.zipIdx.all fun (o', j) => j == i || isV o'.op || isOrdered ps i j || (isAlloc o'.op && Nat.blt i j) || xpair ops i j o o')
def regionOK (ops : List Oper) : Bool :=
 let ps := preds ops []
 let z := ops.zipIdx
 (z.all fun (o, i) => o.after.toList.all fun e => !isPlain e || e.on < i) &&
 (z.all fun (o, i) => match o.dst with
  | none => true
  | some d => z.all fun (o', j) => j == i || !(namesOf ops o').contains d || isOrdered ps i j) &&
 (z.all fun (o, i) => !isW ops ps i o || (z.all fun (o', j) => j == i || isV o'.op || isOrdered ps i j || (isAlloc o'.op && Nat.blt i j) || xpair ops i j o o'))
def wMask (ops : List Oper) : Nat :=
 let ps := preds ops []
 ops.zipIdx.foldl (fun s (o, i) => if isW ops ps i o then s ||| (1 <<< i) else s) 0
def isX (ops : List Oper) (ps : List Nat) (k : Nat) (o : Oper) : Bool :=
 (ops.zipIdx.any fun (o', i) => xpair ops i k o' o && !isOrdered ps i k) || (ops.zipIdx.any fun (o', j) => xpair ops k j o o' && !isOrdered ps k j)
def xMask (ops : List Oper) : Nat := match xloads || xstores with
 | false => 0
 | true => ops.zipIdx.foldl (fun s (o, i) => if isX ops (preds ops []) i o then s ||| (1 <<< i) else s) 0
def mexact (m : M) (v : Value) : Bool := match v with
 | .pointer (some ⟨r, _, none⟩) => match m[r]? with
  | some row => row.ex || !xloads
  | none => false
 | _ => false
def mfull (vs : List Value) : Bool := match vs with
 | .slice none 0 0 :: _ => true
 | .slice (some ⟨_, _, none⟩) l c :: _ => Nat.beq l c
 | _ => false
def mdif (v : Value) (us : List Value) : Bool := match v with
 | .pointer (some ⟨r, _, none⟩) => us.all fun u => match u with
  | .pointer (some ⟨q, _, none⟩) => !Nat.beq q r
  | _ => false
 | _ => false
def mdifV (vs us : List Value) : Bool := match vs with
 | .slice none _ _ :: _ => true
 | .slice (some ⟨r, _, _⟩) _ _ :: _ => us.all fun u => match u with
  | .pointer (some ⟨q, _, none⟩) => !Nat.beq q r
  | _ => false
 | _ => false
def xaddrs (all : List Oper) (k : Nat) : List Operand := match all[k]? with
 | some o => match isStore o.op || isAppend o.op with
  | true => all.zipIdx.filterMap fun (o', j) => if xpair all k j o o' && !isOrdered (preds all []) k j then xaddrOf o'.op else none
  | false => []
 | none => []
def mchk (L : List Operand) (T : Fr) (m : M) (op : Op) : Bool := match op with
 | .store _ a _ => match ev T a, evs T L with
  | some v, some us => mdif v us
  | _, _ => false
 | .load _ a => match ev T a with
  | some v => mexact m v
  | none => false
 | .call c => match xstores with
  | true => match evs T c.args.toList, evs T L with
   | some vs, some us => mdifV vs us
   | _, _ => false
  | false => match evs T c.args.toList with
   | some vs => mfull vs
   | none => false
 | _ => false
def mopB (E : Env) (call : CallF) (T : Fr) (m : M) (op : Op) : Option ORes :=
 match mtarget T op with
 | some (f, vs) => match call m.length f vs m with
  | some (.ret v, m') => fList (m ++ m'.drop m.length) fun m' => some (.val v m')
  | _ => none
 | none => match mpure E m.length T m op with
  | some (v, m') => fList (m ++ m'.drop m.length) fun m' => some (.val v m')
  | none => none
def hasXS (ops : List Oper) : Bool := match xstores with
 | true => ops.zipIdx.any fun (o, i) => isStore o.op && (xMask ops).testBit i
 | false => false
def regK (ops : List Oper) (m : M) : Nat := match hasXS ops with
 | true => m.length
 | false => 0
def mdops (E : Env) (call : CallF) (base : Nat) (all : List Oper) (ws K : Nat) : Nat → List Oper → Fr → M → Option (Fr × M)
 | _, [], T, m => some (T, m)
 | k, o :: os, T, m =>
  match mwanted all T o with
  | some true => match (if (xMask all).testBit k && !mchk (xaddrs all k) T m o.op then none else if ws.testBit k then mop E call base T m o.op else if isV o.op then mop E call base T m o.op else mopB E call T m o.op) with
   | some (.val v m') => mdops E call base all ws K (k + 1) os (mput T o.dst v) m'
   | _ => none
  | some false => mdops E call base all ws K (k + 1) os (mput T o.dst undef) m
  | none => none
def mregion (E : Env) (call : CallF) (base : Nat) (ops : List Oper) (draw : Bool) (T : Fr) (m : M) : Option (MExit × Fr × M) :=
 if draw then
  if regionOK ops then
   match mdops E call base ops (wMask ops) (regK ops m) 0 ops T m with
   | some (T', m') => some (.normal, T', m')
   | none => none
  else none
 else mops E call base ops ops T m
def mputs : Fr → List Tmp → List Value → Fr
 | T, p :: ps, v :: vs => mputs (mput T (some p) v) ps vs
 | T, _, _ => T
def mrec (m : M) (y : Nat) : Option LoopR := match m[y]? with
 | some row => row.lp
 | none => none
def mrecSet (m : M) (y : Nat) (lp : LoopR) : M := m.set y { esz := 0, ex := true, ro := true, cells := [], lp := some lp }
def mjump : Option Code → Option MExit
 | none => some .normal
 | some .ret => some .ret
 | some (.exit id) => some (.exit id)
 | _ => none
def newLoop (key : Nat) (T : Fr) : Row := { esz := 0, ex := true, ro := true, cells := [], lp := some { key := key, T := T, st := .ready, pend := none } }
def mrange (call : CallF) (base : Nat) (gv : Value) (key : Nat) (T : Fr) (m : M) : Option (MExit × M) :=
 match gv with
 | .func (.func f) first captured => match Nat.beq f yid with
  | true => none
  | false => fNat m.length fun y =>
   match call base f (first.toList ++ [.func (.yield y) #[] #[]] ++ captured.toList) (m ++ [newLoop key T]) with
   | some (.ret _, m') => match mrec m' y with
    | some lp => match lp.st with
     | .busy => none
     | _ => match mjump lp.pend with
      | some e => some (e, mrecSet m' y { lp with st := .exhausted })
      | none => none
    | none => none
   | _ => none
 | _ => none
def jumpOf : MExit → Option (Option Code)
 | .normal => some none
 | .ret => some (some .ret)
 | .exit id => some (some (.exit id))
 | .pan _ => none
def mcode (E : Env) (call : CallF) (live : Nat → Option (List Nat)) (fuel : Nat) (base : Nat) : Code → St → Option (MExit × St)
 | .skip, s => some (.normal, s)
 | .region id ops draw, (T, m) => match mregion E call base ops.toList draw T m with
  | some (e, T', m') => fList (T'.trim (live id)).l fun l => some (e, { n := T'.n, l := l }, m')
  | none => none
 | .seq a b, s => match mcode E call live fuel base a s with
  | some (.normal, s') => mcode E call live fuel base b s'
  | r => r
 | .cond c a b, (T, m) => match ev T c with
  | some (.bool true) => mcode E call live fuel base a (T, m)
  | some (.bool false) => mcode E call live fuel base b (T, m)
  | _ => none
 | .block id b, s => match mcode E call live fuel base b s with
  | some (.exit id', s') => if id' = id then some (.normal, s') else some (.exit id', s')
  | r => r
 | .loop b, s => mloop (fun s => mcode E call live fuel base b s) fuel s
 | .rangeFunc g _ _ body, (T, m) => match ev T g with
  | some gv => match mrange call base gv (codeKey body 0) { n := T.n, l := collect T.l (gslots (codeKey body 0)) } m with
   | some (e, m') => some (e, T, m')
   | none => none
  | none => none
 | .exit id, s => some (.exit id, s)
 | .label _, s => some (.normal, s)
 | .ret, s => some (.ret, s)
 | _, _ => none
def mresult (P : Program) (T : Fr) (m : M) : ResultVar → Option Value
 | .tmp t => alook T.l t
 | .cell a t => match alook T.l a with
  | some p => mload P m t p
  | none => none
def mresults (P : Program) (T : Fr) (m : M) : List ResultVar → Option (List Value)
 | [] => some []
 | r :: rs => match mresult P T m r with
  | none => none
  | some v => match mresults P T m rs with
   | none => none
   | some vs => some (v :: vs)
def frame : Nat → List Value → List (Nat × Value)
 | _, [] => []
 | k, v :: vs => (k, v) :: frame (k + 1) vs
def mbody (E : Env) (call : CallF) (live : Nat → Option (List Nat)) (fuel : Nat) (base : Nat) (fn : Func) (args : List Value) (m : M) : Option (Ret × M) :=
 match fn.body with
 | none => none
 | some c =>
  match mcode E call live fuel base c (fList (frame 0 args) fun l => { n := max args.length fn.ntmps, l := l }, m) with
  | some (.normal, T, m') | some (.ret, T, m') => match mresults E.P T m' fn.results.toList with
   | some [v] => fVal v fun v => some (.ret v, m')
   | some vs => some (.ret (.tuple vs.toArray), m')
   | none => none
  | some (.pan v, _, m') => some (.pan v, m')
  | _ => none
def mfin (m : M) (y : Nat) (j : Option (Option Code)) : Option (Ret × M) := match j with
 | some j => match mrec m y with
  | some lp => some (.ret (.bool j.isNone), mrecSet m y { lp with st := if j.isNone then .ready else .done, pend := j })
  | none => none
 | none => none
def mbusy (m : M) (y : Nat) : Option M := match mrec m y with
 | some lp => match lp.st with
  | .ready => some (mrecSet m y { lp with st := .busy })
  | _ => none
 | none => none
noncomputable def mround (E : Env) (call : CallF) (fuel : Nat) (base : Nat) (args : List Value) (m : M) : Option (Ret × M) :=
 match args with
 | .func (.yield y) ⟨[]⟩ ⟨[]⟩ :: vs =>
  if y < base then none else
  match mrec m y with
  | some lp => match lp.st with
   | .ready => match gsite lp.key with
    | some s => if vs.length = s.ps.length then
     match mcode E call (fun _ => none) fuel base s.assign (mputs lp.T s.ps vs, m) with
     | some (.normal, T1, m1) => match mbusy m1 y with
      | some m1' => match mcode E call (fun _ => none) fuel base s.body (T1, m1') with
       | some (e, _, m2) => mfin m2 y (jumpOf e)
       | none => none
      | none => none
     | _ => none
     else none
    | none => none
   | _ => none
  | none => none
 | _ => none
def vflat1 : Value → Bool
 | .agg cs => cs.toList.all vsimple
 | v => vsimple v
def vflat : Value → Bool
 | .tuple cs => cs.toList.all vflat1
 | v => vflat1 v
end Go.AM
