import Derived.Carry
import Derived.Handy
import Derived.KernelRfl
import Derived.Laws.BytesArg
import Derived.Laws.StructEq
import Derived.Maps.AppendAt
import Derived.Maps.OwnOps
import Derived.Maps.RangeRun
import Derived.Maps.RangeWalk
import Derived.Test.YtcgohiiihhplgaaDoorRows
import Derived.WalkKit
import Derived.Test.YtcgohiiihhplgaaDoorAmB
import Derived.Test.YtcgohiiihhplgaaDoorAmModel
import Derived.Test.YtcgohiiihhplgaaDoorAmOps6
import Derived.Test.YtcgohiiihhplgaaDoorAmCode
import Derived.Test.YtcgohiiihhplgaaDoorAmK2
import Derived.Test.YtcgohiiihhplgaaDoorAmEq
import Derived.Test.YtcgohiiihhplgaaDoorRBase
import Derived.Test.YtcgohiiihhplgaaDoorB1
import Derived.Test.YtcgohiiihhplgaaDoorK1
import Derived.Test.YtcgohiiihhplgaaDoorR6
import Derived.Test.YtcgohiiihhplgaaDoorR41
import Derived.Test.YtcgohiiihhplgaaDoorR42
import Derived.Test.YtcgohiiihhplgaaDoorD3
import Derived.Test.YtcgohiiihhplgaaDoorK3
import Derived.Test.YtcgohiiihhplgaaDoorAmS
import Derived.Test.YtcgohiiihhplgaaDoorK4
set_option linter.unusedVariables false
set_option linter.unusedSimpArgs false
set_option linter.unusedSectionVars false
namespace Go.AM
open Go Go.Proofs
open Go.ChangeMaps (setBlock)
open Go.RowKit
def Hide (p : Prop) : Prop := p
theorem Hide.mk {p : Prop} (h : p) : Hide p := h
theorem Hide.out {p : Prop} (h : Hide p) : p := h
def andB (a b : B) : B := a &&& b
def orB (a b : B) : B := a ||| b
def subB (a b : B) : B := a &&& ~~~b
def isz (a : B) : Bool := decide (a = 0)
theorem isz_true {a : B} (h : a = 0) : isz a = true := by unfold isz; rw [decide_eq_true h]
theorem isz_false {a : B} (h : a ≠ 0) : isz a = false := by unfold isz; rw [decide_eq_false h]
theorem isz_zero {a : B} (h : isz a = true) : a = 0 := of_decide_eq_true h
theorem isz_nz {a : B} (h : isz a = false) : a ≠ 0 := of_decide_eq_false h
theorem not_isz {a : B} (h : (!isz a) = true) : isz a = false := by simpa using h
theorem not_isz' {a : B} (h : (!isz a) = false) : isz a = true := by simpa using h
theorem run_and (a b : B) (w : World) : (binOp BinOp.and 58 (vb a) (vb b)).run Tryd.prog w = .ok (vb (andB a b)) w := by
  have h := band a b
  unfold vb andB
  rw [← h]
  show _ = _
  kernel_rfl
theorem run_or (a b : B) (w : World) : (binOp BinOp.or 58 (vb a) (vb b)).run Tryd.prog w = .ok (vb (orB a b)) w := by
  have h := bor a b
  unfold vb orB
  rw [← h]
  show _ = _
  kernel_rfl
theorem run_sub (a b : B) (w : World) : (binOp BinOp.andNot 58 (vb a) (vb b)).run Tryd.prog w = .ok (vb (subB a b)) w := by
  have h := bsub a b
  unfold vb subB
  rw [← h]
  show _ = _
  kernel_rfl
theorem run_eq0 (a : B) (w : World) : (binOp .eql 58 (vb a) (.int .u64 0)).run Tryd.prog w = .ok (.bool (isz a)) w := by
  have h := b_eq a 0
  have e : mbin E .eql 58 (vb a) (.int .u64 0) = some (.bool ((a.toNat : Int) == 0)) := rfl
  rw [show vb 0 = .int .u64 0 from rfl, e] at h
  unfold isz
  rw [← Value.bool.inj (Option.some.inj h)]
  unfold vb
  show _ = _
  kernel_rfl
theorem run_ne0 (a : B) (w : World) : (binOp .neq 58 (vb a) (.int .u64 0)).run Tryd.prog w = .ok (.bool (!isz a)) w := by
  have h := b_ne a 0
  have e : mbin E .neq 58 (vb a) (.int .u64 0) = some (.bool ((a.toNat : Int) != 0)) := rfl
  rw [show vb 0 = .int .u64 0 from rfl, e] at h
  have h2 : (!isz a) = ((a.toNat : Int) != 0) := by
    rw [Value.bool.inj (Option.some.inj h)]
    unfold isz
    simp
  rw [h2]
  unfold vb
  show _ = _
  kernel_rfl
theorem run_g (x y : Operand) (a : B) (w : World) : (eqGuard .eql 58 x y (vb a) (.int .u64 0)).run Tryd.prog w = .ok () w := by
  simp [eqGuard, vb]
theorem run_gn (x y : Operand) (a : B) (w : World) : (eqGuard .neq 58 x y (vb a) (.int .u64 0)).run Tryd.prog w = .ok () w := by
  simp [eqGuard, vb]
theorem run_bs (a c : B) (w : World) : (Instr.buildSlice 86 2 #[(0, vb a), (1, vb c)]).run Tryd.prog w = .ok (.slice (some ⟨w.heap.size, 0, none⟩) 2 2) (w.alloc (.cells #[vb a, vb c] 58)) := by
  show _ = _
  kernel_rfl
theorem wp_two (w : World) {ops : Array Oper} {rest : List Oper} {o : Oper} {a : Act} {Q : Exit → Act → World → Prop} (hg : o.guard = none) (x y : Operand) (hop : o.op = Op.buildSlice 86 2 #[(0, x), (1, y)]) (p q : B) (hx : a.eval x = vb p) (hy : a.eval y = vb q)
    (hK : ∀ w', w'.cell? ⟨w.heap.size, 0, none⟩ = some (vb p) → w'.cell? ⟨w.heap.size, 1, none⟩ = some (vb q) → w.grownBy w' none → w'.heap.size = w.heap.size + 1 → wpList Tryd.prog ops Q rest (a.put o.dst (.slice (some ⟨w.heap.size, 0, none⟩) 2 2)) w') :
    wpList Tryd.prog ops Q (o :: rest) a w := by
  refine wpList_plain hg fun K' hK' => ?_
  have hrun := run_bs p q w
  unfold Oper.wp
  simp [execOp, hop, hx, hy, hrun, Result.andThen]
  have e := heap_alloc_new w (.cells #[vb p, vb q] 58)
  refine hK' _ _ (hK _ ?_ ?_ ⟨rfl, rfl, rfl, by simp, fun k hk _ => heap_alloc_old w _ hk⟩ (by simp))
  · unfold World.cell?; rw [e]; rfl
  · unfold World.cell?; rw [e]; rfl
/-- What is left of a set when its first n cells are taken. -/
def rst : Nat → B → B
  | 0, s => s
  | n + 1, s => pop (rst n s)
theorem rst_succ' : ∀ (n : Nat) (s : B), rst (n + 1) s = rst n (pop s)
  | 0, s => rfl
  | n + 1, s => by
    show pop (rst (n + 1) s) = pop (rst n (pop s))
    rw [rst_succ' n s]
theorem sing_get : ∀ (d : Nat) (s : B) (j : Nat), j < (sing d s).length → (sing d s)[j]? = some (low (rst j s)) ∧ rst j s ≠ 0
  | 0, s, j, h => by simp [sing] at h
  | d + 1, s, j, h => by
    by_cases h0 : s = 0
    · unfold sing at h; rw [if_pos h0] at h; simp at h
    · have e : sing (d + 1) s = low s :: sing d (pop s) := by
        show (if s = 0 then [] else low s :: sing d (s &&& ~~~low s)) = _
        rw [if_neg h0]; rfl
      rw [e] at h ⊢
      cases j with
      | zero => exact ⟨rfl, h0⟩
      | succ j =>
        rw [rst_succ']
        exact sing_get d (pop s) j (by simpa using h)
theorem sing_len : ∀ (d : Nat) (s : B), (sing d s).length ≤ d
  | 0, s => by simp [sing]
  | d + 1, s => by
    unfold sing
    split
    · simp
    · have := sing_len d (s &&& ~~~low s); simp; exact this
theorem sing_end : ∀ (d i : Nat) (s : B), i + d = 64 → (∀ j, j < i → s.getLsbD j = false) → rst (sing d s).length s = 0
  | 0, i, s, h, hs => B_zero fun j hj => hs j (by omega)
  | d + 1, i, s, h, hs => by
    by_cases h0 : s = 0
    · have : (sing (d + 1) s).length = 0 := by unfold sing; rw [if_pos h0]; rfl
      rw [this]; exact h0
    · have e : sing (d + 1) s = low s :: sing d (pop s) := by
        show (if s = 0 then [] else low s :: sing d (s &&& ~~~low s)) = _
        rw [if_neg h0]; rfl
      rw [e, List.length_cons, rst_succ']
      obtain ⟨l, hl64, hsl, hlow, e2⟩ := low_one h0
      refine sing_end d (i + 1) (pop s) (by omega) fun j hj => ?_
      have hil : i ≤ l := by
        rcases Nat.lt_or_ge l i with h | h
        · rw [hs l h] at hsl; simp at hsl
        · exact h
      unfold pop
      rw [sub_get, e2, one_get _ _ hl64]
      by_cases h : j = l
      · simp [h]
      · rw [hlow j (by omega)]; simp
structure OutR (s : B) (w : World) (bs off : Nat) (b n : Nat) (L : List En) (c : Nat) (wr : World) : Prop where
  map : MapAt wr b L c
  good : GoodL L c
  sub : ∀ k ∈ keysL L, Sub k (rst n s)
  sum : cg (sumL L) (NT s)
  words : WordsAt wr bs off (sing 64 s)
  grown : w.grownBy wr none
  new : w.heap.size ≤ b
  ne : b ≠ bs
def OutI (s : B) (w : World) (bs off : Nat) (m i : Value) (wr : World) : Prop :=
  ∃ (b n : Nat) (L : List En) (c : Nat), m = .map (some b) ∧ i = .int .i64 (n : Int) ∧ n ≤ (sing 64 s).length ∧ OutR s w bs off b n L c wr
structure MidR (s : B) (w : World) (bs off : Nat) (b n : Nat) (L : List En) (c nb r : Nat) (seen : Array Nat) (M : List En) (d : Nat) (wr : World) : Prop where
  map : MapAt wr b L c
  iter : IterAt wr r b c seen c
  next : MapAt wr nb M d
  good : GoodL M d
  sub : ∀ k ∈ keysL M, Sub k (rst (n + 1) s)
  sum : cg (sumL M) (seenS L seen)
  words : WordsAt wr bs off (sing 64 s)
  grown : w.grownBy wr none
def MidI (s : B) (w : World) (bs off : Nat) (b n : Nat) (L : List En) (c nb r : Nat) (wr : World) : Prop := ∃ seen M d, MidR s w bs off b n L c nb r seen M d wr
theorem iter_seen {w : World} {r b since : Nat} {seen : Array Nat} {c : Nat} (h : IterAt w r b since seen c) : w.iterSeen r = seen := by
  unfold World.iterSeen
  rw [h]
/-- Nothing that was there has turned but blocks r and nb. -/
structure Away (w w' : World) (r nb : Nat) : Prop where
  os : w'.os = w.os
  tape : w'.tape = w.tape
  output : w'.output = w.output
  size : w.heap.size ≤ w'.heap.size
  block : ∀ k, k < w.heap.size → k ≠ r → k ≠ nb → w'.heap[k]? = w.heap[k]?
theorem Away.of {w w' : World} {r nb : Nat} {row : Option Nat} (g : w.grownBy w' row) (h : ∀ j, row = some j → j = r ∨ j = nb) : Away w w' r nb :=
  ⟨g.os, g.tape, g.output, g.size, fun k hk h1 h2 => g.block k hk fun e => by rcases h k e.symm with h | h <;> omega⟩
theorem Away.trans {a b c : World} {r nb : Nat} (h : Away a b r nb) (k : Away b c r nb) : Away a c r nb :=
  ⟨k.os.trans h.os, k.tape.trans h.tape, k.output.trans h.output, Nat.le_trans h.size k.size, fun x hx h1 h2 => (k.block x (Nat.lt_of_lt_of_le hx h.size) h1 h2).trans (h.block x hx h1 h2)⟩
theorem mid_step {s : B} {w : World} {bs off b n : Nat} {L : List En} {c nb r : Nat} {seen : Array Nat} {M : List En} {d : Nat} {wr : World} (hM : MidR s w bs off b n L c nb r seen M d wr) (hgood : GoodL L c)
    {k : B} {q : Int} {t : Nat} (hmem : (k, q, t) ∈ L) (hsn : seen.contains t = false) {wz : World} (hA : Away wr wz r nb) (hi : IterAt wz r b c (seen.push t) c) {M' : List En} {d' : Nat} (hm : MapAt wz nb M' d') (hg' : GoodL M' d')
    (hsub : ∀ k' ∈ keysL M', Sub k' (rst (n + 1) s)) (hsum : cg (sumL M') (sumL M + q * (NT k : Int))) (h1 : b ≠ r) (h2 : b ≠ nb) (h3 : bs ≠ r) (h4 : bs ≠ nb) (h5 : w.heap.size ≤ nb) (h6 : w.heap.size ≤ r) :
    MidI s w bs off b n L c nb r wz ∧ unseen L (wz.iterSeen r) < unseen L (wr.iterSeen r) := by
  refine ⟨⟨seen.push t, M', d', (hA.block b hM.map.lt h1 h2).trans hM.map, hi, hm, hg', hsub, ?_, ?_, ?_⟩, ?_⟩
  · rw [seenS_push (e := (k, q, t)) hgood.born hmem hsn]
    exact hsum.trans (hM.sum.add (cg.refl _))
  · exact ⟨by have := hA.size; have := hM.words.lt; omega, fun j x hj => (World.cell?_of_block (a := ⟨bs, off + j, none⟩) (hA.block bs hM.words.lt h3 h4)).trans (hM.words.at_ j x hj)⟩
  · have g := hM.grown
    exact ⟨hA.os.trans g.os, hA.tape.trans g.tape, hA.output.trans g.output, Nat.le_trans g.size hA.size, fun x hx hr => (hA.block x (Nat.lt_of_lt_of_le hx g.size) (by omega) (by omega)).trans (g.block x hx hr)⟩
  · rw [iter_seen hi, iter_seen hM.iter]
    exact unseen_push (e := (k, q, t)) hmem hsn
/-- One count more. -/
theorem upd_sum (M : List En) (d : Nat) (k : B) (q : Int) : cg (sumL (setL M d k (IntKind.i64.wrap (getL M k + q)))) (sumL M + q * (NT k : Int)) := by
  rw [sum_setL]
  refine (cg.refl _).add ?_
  refine cg.mul ?_ _
  have := (cg_wrap (getL M k + q)).add (cg.refl (-getL M k))
  have e : getL M k + q + -getL M k = q := by omega
  rw [e] at this
  exact this
theorem w64 (x : Int) : IntKind.i64.wrap (wrap64 x) = wrap64 x := by
  rw [IntKind.wrap_i64]; unfold wrap64; omega
theorem upd_sum' (M : List En) (d : Nat) (k : B) (q : Int) : cg (sumL (setL M d k (wrap64 (getL M k + q)))) (sumL M + q * (NT k : Int)) := by
  have e : ∀ x : Int, wrap64 x = IntKind.i64.wrap x := fun x => by rw [IntKind.wrap_i64]; unfold wrap64; omega
  rw [e]
  exact upd_sum M d k q
theorem NT_rec' {k r : B} (h : Sub k r) (hk : andB k (low r) ≠ 0) : (NT k : Int) = (if isz (andB k (rightB (low r))) then 0 else (NT (subB k (orB (low r) (rightB (low r)))) : Int)) + (if isz (andB k (belowB (low r))) then 0 else (NT (subB k (orB (low r) (belowB (low r)))) : Int)) := by
  obtain ⟨hl, h0⟩ := h.low_eq hk
  rw [NT_rec h0, hl]
  by_cases h1 : andB k (rightB (low r)) = 0
  · rw [isz_true h1]
    have h1' : k &&& rightB (low r) = 0 := h1
    rw [if_neg (fun h => h h1')]
    by_cases h2 : andB k (belowB (low r)) = 0
    · rw [isz_true h2]
      have h2' : k &&& belowB (low r) = 0 := h2
      rw [if_neg (fun h => h h2')]
      simp
    · rw [isz_false h2]
      have h2' : k &&& belowB (low r) ≠ 0 := h2
      rw [if_pos h2']
      simp [subB, orB]
  · rw [isz_false h1]
    have h1' : k &&& rightB (low r) ≠ 0 := h1
    rw [if_pos h1']
    by_cases h2 : andB k (belowB (low r)) = 0
    · rw [isz_true h2]
      have h2' : k &&& belowB (low r) = 0 := h2
      rw [if_neg (fun h => h h2')]
      simp [subB, orB]
    · rw [isz_false h2]
      have h2' : k &&& belowB (low r) ≠ 0 := h2
      rw [if_pos h2']
      simp [subB, orB]
theorem sub_set {M : List En} {d : Nat} {k : B} {v : Int} {r : B} (h : ∀ x ∈ keysL M, Sub x r) (hk : Sub k r) : ∀ x ∈ keysL (setL M d k v), Sub x r := fun x hx => by
  rcases keys_setL hx with h1 | rfl
  · exact h x h1
  · exact hk
set_option maxRecDepth 100000 in
set_option maxHeartbeats 1000000 in
theorem count_ne (s : B) (hs : s ≠ 0) (w : World) (hG : Glob (fun _ => none) w) : Calls Tryd.prog 52 #[vb s] w fun e w' => e = .returned (.int .i64 (IntKind.i64.wrap (NT s))) ∧ w.grownBy w' none := by
  have hG2 : ∀ w', w.grownBy w' none → Glob (fun _ => none) w' := fun w' g => hG.of (fun _ hz => g.block 0 hz (by simp)) (fun hf _ => hf)
  have hAnd := run_and
  have hOr := run_or
  have hSub := run_sub
  have hEq := run_eq0
  have hNe := run_ne0
  have hGe := run_g
  have hGn := run_gn
  have hVc : ∀ a : B, (vb a).cells = #[vb a] := fun _ => rfl
  go_enter Tryd.func52, Tryd.ntmps52
  go_wp2_with (first
    | (refine wp_make _ rfl _ rfl ?_; intro w1 hm1 hg1 hz1; go_frame)
    | (refine wp_upd _ rfl _ _ _ (.inr rfl) w.heap.size [] 0 s 1 rfl rfl rfl hm1 ?_; intro w2 hm2 hg2 hz2; go_frame)
    | (go_at_call 75; refine (sing_any s hs _ (hG2 _ (hg1.andThen hg2 (fun j hj => by cases hj; exact .inl (Nat.le_refl _))))).mono ?_; rintro e w3 ⟨bs, off, cap, rfl, hbs, hws, hg3⟩)
    | go_in)
  have hgw : w.grownBy w2 none := hg1.andThen hg2 (fun j hj => by cases hj; exact .inl (Nat.le_refl _))
  have hm3 : MapAt w3 w.heap.size [(s, 1, 0)] 1 := hm2.grown hg3 (by simp)
  have hne : w.heap.size ≠ bs := by omega
  have hgw3 : w.grownBy w3 none := hgw.andThen hg3 (fun j hj => by cases hj)
  clear hm1 hm2 hg1 hg2 hz1 hz2 hg3 hgw hbs hG2 hG
  have hlen : (sing 64 s).length ≤ 64 := sing_len 64 s
  go_loopw [3, 17] (fun m i wr => OutI s w bs off m i wr) (fun _ i _ => (sing 64 s).length - (intOf i).toNat)
  case atStart =>
    refine ⟨_, 0, _, _, rfl, rfl, Nat.zero_le _, hm3, ⟨by simp [keysL], by simp [bornL], by simp, by simp [IntKind.wrap_i64]⟩, fun k hk => ?_, ?_, hws, hgw3, Nat.le_refl _, hne⟩
    · simp [keysL] at hk; subst hk; exact fun i h => h
    · simp [sumL]; exact cg.refl _
  case round =>
    obtain ⟨b, n, L, c, rfl, rfl, hn, hO⟩ := hrel
    clear hm3 hws hgw3 hne
    by_cases hlt : n < (sing 64 s).length
    · have hc := hO.words.at_ n _ (sing_get 64 s n hlt).1
      go_wp2_with (first
        | (refine wp_make _ rfl _ rfl ?_; intro w4 hm4 hg4 hz4; go_frame)
        | (refine wp_range _ rfl _ rfl b L c rfl (hO.map.grown hg4 (by simp)) ?_; intro w5 hi5 hg5 hz5; go_frame)
        | go_in)
      have hlb : b < wr.heap.size := hO.map.lt
      have hls : bs < wr.heap.size := hO.words.lt
      have hlr : wr.heap.size < w4.heap.size := by omega
      have hL := hO.map
      have hgood := hO.good
      have hsubk : ∀ (k : B) (q : Int) (t : Nat), (k, q, t) ∈ L → Sub k (rst n s) := fun k q t hm => hO.sub k (List.mem_map.2 ⟨_, hm, rfl⟩)
      have hstart : MidI s w bs off b n L c wr.heap.size w4.heap.size w5 := ⟨#[], [], 0, (hO.map.grown hg4 (by simp)).grown hg5 (by simp), hi5, hm4.grown hg5 (by simp), ⟨by simp [keysL], by simp [bornL], by simp, by simp⟩, by simp [keysL], by rw [seenS_none]; exact cg.refl _, (hO.words.grown hg4 (by simp)).grown hg5 (by simp), (hO.grown.andThen hg4 (fun j hj => by cases hj)).andThen hg5 (fun j hj => by cases hj)⟩
      have hnew := hO.new
      have hsumL := Hide.mk hO.sum
      have hsz : w.heap.size ≤ wr.heap.size := hO.grown.size
      clear hm4 hg4 hz4 hi5 hg5 hz5 hc hL hO
      generalize wr.heap.size = nb at hlb hls hlr hstart hsz ⊢
      generalize w4.heap.size = r at hlr hstart ⊢
      go_loopw [7] (fun _ wr2 => MidI s w bs off b n L c nb r wr2) (fun _ wr2 => unseen L (wr2.iterSeen r))
      case atStart => exact hstart
      case round =>
        clear hstart
        obtain ⟨seen, M, d, hM⟩ := hrel
        have hseen := iter_seen hM.iter
        go_wp2_with (first
          | (at_next; refine wp_next _ rfl _ rfl b r L c seen hgood rfl hM.map hM.iter (by omega) ?_ ?_)
          | go_in)
        · intro hall0
          have hall := Hide.mk hall0
          clear hall0
          go_wp2
          go_roundw
          case rel =>
            refine ⟨nb, n + 1, M, d, rfl, by go_num, by omega, ⟨hM.next, hM.good, hM.sub, hM.sum.trans ?_, hM.words, hM.grown, hsz, by omega⟩⟩
            rw [seenS_all (fun e he => by simpa using hall.out e.1 e.2.1 e.2.2 he)]
            exact hsumL.out
          case measure => simp [intOf]; omega
        · intro k q t w6 hmem hsn hi6 hg6 hz6 hen
          clear hz6
          have h0 := Hide.mk (iter_seen hi6)
          have hseen0 := Hide.mk hseen
          clear hseen
          have hsn0 := Hide.mk (show seen.contains t = false by simpa using hsn)
          clear hsn
          go_wp2_with (first
            | (at_lookup; refine wp_look _ rfl _ _ rfl nb M d k rfl rfl (hM.next.grown hg6 (by simp; omega)) ?_; go_frame)
            | (at_mapUpdate; refine wp_upd _ rfl _ _ _ (.inl rfl) nb M d k _ rfl rfl rfl (hM.next.grown hg6 (by simp; omega)) ?_; intro w7 hm7 hg7 hz7; go_frame)
            | (refine wp_two _ rfl _ _ rfl (rightB (low (rst n s))) (belowB (low (rst n s))) rfl rfl ?_; intro w9 hc0 hc1 hg9 hz9; go_frame)
            | (go_at_call 65; refine (right_any (low (rst n s)) _).mono ?_; rintro e w8 ⟨rfl, rfl⟩)
            | (go_at_call 66; refine (below_any (low (rst n s)) _).mono ?_; rintro e w8 ⟨rfl, rfl⟩)
            | go_in)
          · have hk : andB k (low (rst n s)) = 0 := isz_zero (by assumption)
            exact mid_step hM hgood hmem hsn0.out ((Away.of hg6 (by simp)).trans (Away.of hg7 (by simp))) (hi6.grown hg7 (by simp; omega)) hm7 (hM.good.set _ _ (w64 _)) (sub_set hM.sub ((hsubk k q t hmem).pop_of hk)) (upd_sum' _ _ _ _) (by omega) (by omega) (by omega) (by omega) (by omega) (by omega)
          · have hk : andB k (low (rst n s)) ≠ 0 := isz_nz (by assumption)
            have hnt := Hide.mk (NT_rec' (hsubk k q t hmem) hk)
            have hsk := hsubk k q t hmem
            have hps : ∀ x : B, Sub (subB k (orB (low (rst n s)) x)) (rst (n + 1) s) := fun x => hsk.pop_sub x
            refine wp_loop_rounds 3 ?_
            have hmM : MapAt w9 nb M d := (hM.next.grown hg6 (by simp; omega)).grown hg9 (by simp)
            have ha9 : Away wr w9 r nb := (Away.of hg6 (by simp)).trans (Away.of hg9 (by simp))
            have hi9 : IterAt w9 r b c (seen.push t) c := hi6.grown hg9 (by simp)
            have hnb9 : nb < w6.heap.size := by have := hM.next.lt; have := hg6.size; omega
            have hlt9 : w6.heap.size < w9.heap.size := by omega
            clear hg6 hg9 hi6 hz9
            have hgM := hM.good
            have hsM := hM.sub
            rw [rounds_succ]
            go_wp2_with (first
              | (at_lookup; refine wp_look _ rfl _ _ rfl nb _ _ _ rfl rfl (by assumption) ?_; go_frame)
              | (at_mapUpdate; refine wp_upd _ rfl _ _ _ (.inl rfl) nb _ _ _ _ rfl rfl rfl (by assumption) ?_; intro w7 hm7 hg7 hz7; go_frame)
              | go_in)
            · have hA : isz (andB k (rightB (low (rst n s)))) = false := not_isz (by assumption)
              have hA0 := Hide.mk hA
              have ha7 := ha9.trans (Away.of hg7 (by simp))
              have hi7 := hi9.grown hg7 (by simp; omega)
              have hg1 := hgM.set (c := d) (subB k (orB (low (rst n s)) (rightB (low (rst n s))))) (wrap64 (getL M (subB k (orB (low (rst n s)) (rightB (low (rst n s))))) + q)) (w64 _)
              have hs1 := sub_set (d := d) (v := wrap64 (getL M (subB k (orB (low (rst n s)) (rightB (low (rst n s))))) + q)) hsM (hps (rightB (low (rst n s))))
              have hu1 := upd_sum' M d (subB k (orB (low (rst n s)) (rightB (low (rst n s))))) q
              have hc17 := (World.cell?_of_block (a := ⟨w6.heap.size, 1, none⟩) (hg7.block _ hlt9 (by simp; omega))).trans hc1
              clear hg7 hz7 hmM hA ha9 hi9 hc1 hc0
              rw [rounds_succ]
              go_wp2_with (first
              | (at_lookup; refine wp_look _ rfl _ _ rfl nb _ _ _ rfl rfl (by assumption) ?_; go_frame)
              | (at_mapUpdate; refine wp_upd _ rfl _ _ _ (.inl rfl) nb _ _ _ _ rfl rfl rfl (by assumption) ?_; intro w8 hm8 hg8 hz8; go_frame)
              | go_in)
              · have hB : isz (andB k (belowB (low (rst n s)))) = false := not_isz (by assumption)
                have hB0 := Hide.mk hB
                have hz := ha7.trans (Away.of hg8 (by simp))
                have hiz := hi7.grown hg8 (by simp; omega)
                have hg2 := hg1.set (c := clockL M d (subB k (orB (low (rst n s)) (rightB (low (rst n s)))))) (subB k (orB (low (rst n s)) (belowB (low (rst n s))))) _ (w64 (getL (setL M d (subB k (orB (low (rst n s)) (rightB (low (rst n s))))) (wrap64 (getL M (subB k (orB (low (rst n s)) (rightB (low (rst n s))))) + q))) (subB k (orB (low (rst n s)) (belowB (low (rst n s))))) + q))
                have hs2 := fun v => sub_set (d := clockL M d (subB k (orB (low (rst n s)) (rightB (low (rst n s)))))) (v := v) hs1 (hps (belowB (low (rst n s))))
                have hu2 := upd_sum' (setL M d (subB k (orB (low (rst n s)) (rightB (low (rst n s))))) (wrap64 (getL M (subB k (orB (low (rst n s)) (rightB (low (rst n s))))) + q))) (clockL M d (subB k (orB (low (rst n s)) (rightB (low (rst n s)))))) (subB k (orB (low (rst n s)) (belowB (low (rst n s))))) q
                clear hg8 hz8 hB hi7 ha7
                rw [rounds_succ]
                go_wp2
                refine mid_step hM hgood hmem hsn0.out hz hiz hm8 hg2 (hs2 _) ?_ (by omega) (by omega) (by omega) (by omega) (by omega) (by omega)
                have e := hnt.out
                rw [hA0.out, hB0.out] at e
                simp only [Bool.false_eq_true, if_false] at e
                rw [e, Int.mul_add, ← Int.add_assoc]
                exact hu2.trans (hu1.add (cg.refl _))
              · have hB0 := Hide.mk (not_isz' (by assumption) : isz (andB k (belowB (low (rst n s)))) = true)
                rw [rounds_succ]
                go_wp2
                refine mid_step hM hgood hmem hsn0.out ha7 hi7 hm7 hg1 hs1 ?_ (by omega) (by omega) (by omega) (by omega) (by omega) (by omega)
                have e := hnt.out
                rw [hA0.out, hB0.out] at e
                simp only [Bool.false_eq_true, if_false, if_true, Int.add_zero] at e
                rw [e]
                exact hu1
            · have hA : isz (andB k (rightB (low (rst n s)))) = true := not_isz' (by assumption)
              have hA0 := Hide.mk hA
              clear hA
              rw [rounds_succ]
              go_wp2_with (first
              | (at_lookup; refine wp_look _ rfl _ _ rfl nb _ _ _ rfl rfl (by assumption) ?_; go_frame)
              | (at_mapUpdate; refine wp_upd _ rfl _ _ _ (.inl rfl) nb _ _ _ _ rfl rfl rfl (by assumption) ?_; intro w8 hm8 hg8 hz8; go_frame)
              | go_in)
              · have hB0 := Hide.mk (not_isz (by assumption) : isz (andB k (belowB (low (rst n s)))) = false)
                have hz := ha9.trans (Away.of hg8 (by simp))
                have hiz := hi9.grown hg8 (by simp; omega)
                clear hg8 hz8
                rw [rounds_succ]
                go_wp2
                refine mid_step hM hgood hmem hsn0.out hz hiz hm8 (hgM.set _ _ (w64 _)) (sub_set hsM (hps _)) ?_ (by omega) (by omega) (by omega) (by omega) (by omega) (by omega)
                have e := hnt.out
                rw [hA0.out, hB0.out] at e
                simp only [Bool.false_eq_true, if_false, if_true, Int.zero_add] at e
                rw [e]
                exact upd_sum' _ _ _ _
              · have hB0 := Hide.mk (not_isz' (by assumption) : isz (andB k (belowB (low (rst n s)))) = true)
                rw [rounds_succ]
                go_wp2
                refine mid_step hM hgood hmem hsn0.out ha9 hi9 hmM hgM hsM ?_ (by omega) (by omega) (by omega) (by omega) (by omega) (by omega)
                have e := hnt.out
                rw [hA0.out, hB0.out] at e
                simp only [if_true, Int.add_zero] at e
                rw [e, Int.mul_zero, Int.add_zero]
                exact cg.refl _
    · have hend : n = (sing 64 s).length := by omega
      have hz : ∀ k ∈ keysL L, k = 0 := fun k hk => by
        have h := hO.sub k hk
        rw [hend, sing_end 64 0 s (by omega) (fun j hj => by omega)] at h
        exact h.zero
      have hfin := Hide.mk (final_sum hO.good hz)
      have hfin2 := Hide.mk (getL_rng hO.good 0)
      have hz0 := Hide.mk hend
      clear hend hz
      go_wp2_with (first
        | (at_lookup; refine wp_look _ rfl _ _ rfl b L c 0 rfl rfl hO.map ?_; go_frame)
        | go_in)
      go_ret
      refine ⟨?_, hO.grown⟩
      show Ending.returned (.int .i64 (getL L 0)) = _
      rw [← hfin2.out, hfin.out]
      exact congrArg _ (congrArg _ (wrap_cg hO.sum))
end Go.AM
