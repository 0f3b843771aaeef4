import Derived.Carry
import Derived.KernelRfl
import Derived.Laws.BytesArg
import Derived.Laws.StructEq
import Derived.Maps.AppendAt
import Derived.Maps.OwnOps
import Derived.Maps.RangeRun
import Derived.Maps.RangeWalk
import Derived.Test.YtcgohiiihhplgaaDoorRows
import Derived.WalkKit
import Derived.Test.YtcgohiiihhplgaaDoorAmB
import Derived.Test.YtcgohiiihhplgaaDoorAmModel
import Derived.Test.YtcgohiiihhplgaaDoorAmOps6
import Derived.Test.YtcgohiiihhplgaaDoorAmCode
import Derived.Test.YtcgohiiihhplgaaDoorAmK2
import Derived.Test.YtcgohiiihhplgaaDoorAmEq
import Derived.Test.YtcgohiiihhplgaaDoorRBase
import Derived.Test.YtcgohiiihhplgaaDoorB1
import Derived.Test.YtcgohiiihhplgaaDoorK1
import Derived.Test.YtcgohiiihhplgaaDoorR6
import Derived.Test.YtcgohiiihhplgaaDoorR41
import Derived.Test.YtcgohiiihhplgaaDoorR42
import Derived.Test.YtcgohiiihhplgaaDoorD3
import Derived.Test.YtcgohiiihhplgaaDoorK3
import Derived.Test.YtcgohiiihhplgaaDoorAmS
set_option linter.unusedVariables false
set_option linter.unusedSimpArgs false
set_option linter.unusedSectionVars false
namespace Go.AM
open Go Go.Proofs
open Go.ChangeMaps (setBlock)
theorem low_rc (n base : Nat) (s : B) (m : M) : rc (n + 1) base 72 [vb s] m = some (.ret (vb (low s)), m) :=
  rc_pure (f := 72) (rf := rf72) (by kernel_rfl) (by kernel_rfl) n base _ m m _ (s72 (rc n) n m.length s m) rfl
theorem bsub (a b : B) : bits .andNot .u64 (a.toNat : Int) (b.toNat : Int) = ((a &&& ~~~b).toNat : Int) := by
  have h : mbin E .andNot 58 (vb a) (vb b) = some (.int .u64 (bits .andNot .u64 (a.toNat : Int) (b.toNat : Int))) := rfl
  rw [b_sub] at h
  simp only [Option.some.injEq, vb, Value.int.injEq, true_and] at h
  exact h.symm
theorem bor (a b : B) : bits .or .u64 (a.toNat : Int) (b.toNat : Int) = ((a ||| b).toNat : Int) := by
  have h : mbin E .or 58 (vb a) (vb b) = some (.int .u64 (bits .or .u64 (a.toNat : Int) (b.toNat : Int))) := rfl
  rw [b_or] at h
  simp only [Option.some.injEq, vb, Value.int.injEq, true_and] at h
  exact h.symm
theorem band (a b : B) : bits .and .u64 (a.toNat : Int) (b.toNat : Int) = ((a &&& b).toNat : Int) := by
  have h : mbin E .and 58 (vb a) (vb b) = some (.int .u64 (bits .and .u64 (a.toNat : Int) (b.toNat : Int))) := rfl
  rw [b_and] at h
  simp only [Option.some.injEq, vb, Value.int.injEq, true_and] at h
  exact h.symm
theorem bshl (a : B) (n : Nat) (hn : n ≤ 64) : .int .u64 (IntKind.u64.wrap ((a.toNat : Int) * 2 ^ n)) = vb (a <<< n) := by
  have h := b_shl a n hn
  have e : mbin E .shl 58 (vb a) (.int .u64 (n : Int)) = if (n : Int) < 0 then none else some (.int .u64 (IntKind.u64.wrap ((a.toNat : Int) * 2 ^ (min (n : Int).toNat 64)))) := rfl
  rw [e, if_neg (by omega), show min (n : Int).toNat 64 = n by omega] at h
  exact Option.some.inj h
theorem ext_grown {ρ ρ' : Map} {w w' : World} (h : Ext 0 ρ ρ' w w') (hd : ∀ r, ρ r = none) : w.grownBy w' none :=
  ⟨h.os, h.tape, h.output, h.size, fun b hb _ => h.frame b hb fun r l hr => by rw [hd] at hr; simp at hr⟩
/-- Where a slice of words lies. -/
structure WordsAt (w : World) (bs off : Nat) (l : List B) : Prop where
  lt : bs < w.heap.size
  at_ : ∀ (j : Nat) s, l[j]? = some s → w.cell? ⟨bs, off + j, none⟩ = some (vb s)
theorem WordsAt.grown {w w' : World} {bs off : Nat} {l : List B} (h : WordsAt w bs off l) {row : Option Nat} (g : w.grownBy w' row) (hne : some bs ≠ row) : WordsAt w' bs off l :=
  ⟨by have := g.size; have := h.lt; omega, fun j s hj => (World.cell?_of_block (a := ⟨bs, off + j, none⟩) (g.block bs h.lt hne)).trans (h.at_ j s hj)⟩
def Singles (s : B) (w : World) (e : Ending) (w' : World) : Prop :=
  ∃ bs off cap, e = .returned (.slice (some ⟨bs, off, none⟩) (sing 64 s).length cap) ∧ w.heap.size ≤ bs ∧ WordsAt w' bs off (sing 64 s) ∧ w.grownBy w' none
theorem sing_ne {s : B} (hs : s ≠ 0) : 1 ≤ (sing 64 s).length := by
  show 1 ≤ (if s = 0 then [] else low s :: sing 63 (s &&& ~~~low s)).length
  rw [if_neg hs]; simp
theorem sing_any (s : B) (hs : s ≠ 0) (w : World) (hG : Glob (fun _ => none) w) : Calls Tryd.prog 75 #[vb s] w (Singles s w) := by
  obtain ⟨v', m', h1, h2, h3⟩ := s75 (rc 70) (fun base s m => low_rc 69 base s m) 70 0 0 (Nat.le_refl 0) (by omega) s [] (by simp)
  have h : rc 71 0 75 [vb s] [] = some (.ret v', m') := (rc_imp (f := 75) (rf := rf75) (by kernel_rfl) (by kernel_rfl) 70 0 _ []).trans h1
  refine (((rc_sound 71).one h).2.2 (fun _ => none) w [vb s] (rel_nil hG) (Nat.le_refl 0) (LRel.cons (.int _ _) (LRel.nil _))).mono fun e w' hk => ?_
  obtain ⟨ρ', he, hr, v'', hend, hvr⟩ := hk
  have hlen := sing_ne hs
  rcases h2 with ⟨h0, _⟩ | ⟨r, _, _, rfl, hrow, hl⟩
  · omega
  · cases hvr with
    | slice hρ g1 g2 g3 g4 g5 =>
      rename_i off' cap' l
      obtain ⟨a1, a2, C, T, fz, hh, hs2, hlen2, _, hcell⟩ := hr.row r l _ hρ hrow
      have hoff : off' = l.base := by rcases g4 with g4 | g4 <;> omega
      subst hoff
      refine ⟨l.b, l.base, cap', hend, ?_, ⟨(Array.getElem?_eq_some_iff.1 hh).1, fun j s hj => ?_⟩, ext_grown he fun _ => rfl⟩
      · rcases he.new r l hρ with h | ⟨_, h | ⟨r0, l0, h, _⟩⟩
        · simp at h
        · exact h
        · simp at h
      · obtain ⟨v', hv', hrel⟩ := hcell j (vb s) (by simp [rowz, hj])
        cases hrel
        simp [World.cell?, hh, hv']; rfl
set_option maxRecDepth 100000 in
set_option maxHeartbeats 1000000 in
theorem right_any (s : B) (w : World) : Calls Tryd.prog 65 #[vb s] w fun e w' => e = .returned (vb (rightB s)) ∧ w = w' := by
  have hk := s65 (rc 0) 0 0 s []
  unfold vb
  go_enter Tryd.func65, Tryd.ntmps65
  go_wp2
  go_ret
  refine ⟨?_, rfl⟩
  have e := bsub s rightmost
  have e2 : ((rightmost.toNat : Nat) : Int) = 9259542123273814144 := rfl
  rw [e2] at e
  have e3 := bshl (s &&& ~~~rightmost) 1 (by omega)
  show Ending.returned (.int .u64 (IntKind.u64.wrap (bits BinOp.andNot IntKind.u64 (↑(BitVec.toNat s)) 9259542123273814144 * 2))) = _
  rw [e]
  exact congrArg _ e3
set_option maxRecDepth 100000 in
set_option maxHeartbeats 1000000 in
theorem below_any (s : B) (w : World) : Calls Tryd.prog 66 #[vb s] w fun e w' => e = .returned (vb (belowB s)) ∧ w = w' := by
  unfold vb
  go_enter Tryd.func66, Tryd.ntmps66
  go_wp2
  go_ret
  refine ⟨?_, rfl⟩
  have e3 := bshl s 8 (by omega)
  show Ending.returned (.int .u64 (IntKind.u64.wrap (↑(BitVec.toNat s) * 256))) = _
  exact congrArg _ e3
end Go.AM
