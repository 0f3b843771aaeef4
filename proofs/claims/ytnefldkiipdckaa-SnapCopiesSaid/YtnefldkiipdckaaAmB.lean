import Derived.WalkKit
set_option linter.unusedVariables false
set_option linter.unusedSimpArgs false
set_option linter.unusedSectionVars false
namespace Go.AM
def wcalls : List Nat := [23, 24, 25, 27, 67, 70, 71, 72, 75, 95, 97, 98, 100, 101, 102, 110, 112]
def bslices : List Nat := []
def xloads : Bool := false
def xstores : Bool := true
def wdyn : List (List Nat) := []
end Go.AM
namespace Go.AM
open Go
def seqL : Code → Code | .seq a _ => a | _ => .skip
def seqR : Code → Code | .seq _ a => a | _ => .skip
def blockB : Code → Code | .block _ a => a | _ => .skip
def loopB : Code → Code | .loop a => a | _ => .skip
def codeKey : Code → Nat → Nat
 | .region id ops _, k => (k * 1009 + id * 31 + ops.size + 1) % 1000003
 | .seq a b, k => codeKey b (codeKey a ((k * 7 + 1) % 1000003))
 | .cond _ a b, k => codeKey b (codeKey a ((k * 11 + 2) % 1000003))
 | .block id b, k => codeKey b ((k * 13 + id * 5 + 3) % 1000003)
 | .loop b, k => codeKey b ((k * 17 + 4) % 1000003)
 | .rangeFunc _ ps a b, k => codeKey b (codeKey a ((k * 19 + ps.size * 5 + 6) % 1000003))
 | .exit id, k => (k * 23 + id * 5 + 7) % 1000003
 | .scope b, k => codeKey b ((k * 29 + 8) % 1000003)
 | .ret, k => (k * 31 + 9) % 1000003
 | _, k => (k * 37 + 10) % 1000003
structure Site where
 key : Nat
 ps : List Tmp
 assign : Code
 body : Code
def sitesOf : Code → List Site
 | .seq a b => sitesOf a ++ sitesOf b
 | .cond _ a b => sitesOf a ++ sitesOf b
 | .block _ b => sitesOf b
 | .loop b => sitesOf b
 | .scope b => sitesOf b
 | .rangeFunc _ ps a b => ⟨codeKey b 0, ps.toList, a, b⟩ :: (sitesOf a ++ sitesOf b)
 | _ => []
def findSite : List Site → Nat → Option Site
 | [], _ => none
 | s :: l, k => match Nat.beq s.key k with
  | true => some s
  | false => findSite l k
theorem findSite_mem {k : Nat} {s : Site} : ∀ {l : List Site}, findSite l k = some s → s ∈ l ∧ s.key = k
 | t :: l, h => by
  simp only [findSite] at h
  split at h
  ·rename_i hk
   simp only [Option.some.injEq] at h
   subst h
   exact ⟨by simp, Nat.eq_of_beq_eq_true hk⟩
  ·have := findSite_mem h
   exact ⟨List.mem_cons_of_mem _ this.1, this.2⟩
theorem findSite_of {s : Site} : ∀ {l : List Site}, (l.map (·.key)).Nodup → s ∈ l → findSite l s.key = some s
 | t :: l, hn, hm => by
  simp only [List.map_cons, List.nodup_cons] at hn
  simp only [findSite]
  rcases List.mem_cons.1 hm with rfl | hm
  ·simp
  ·split
   ·rename_i hk
    have := Nat.eq_of_beq_eq_true hk
    exact absurd (this ▸ List.mem_map_of_mem hm) hn.1
   ·exact findSite_of hn.2 hm
theorem sitesOf_sub : ∀ {c : Code} {s : Site}, s ∈ sitesOf c → (∀ t ∈ sitesOf s.assign, t ∈ sitesOf c) ∧ (∀ t ∈ sitesOf s.body, t ∈ sitesOf c)
 | .seq a b, s, h => by
  simp only [sitesOf, List.mem_append] at h ⊢
  rcases h with h | h
  ·have := sitesOf_sub h; exact ⟨fun t ht => .inl (this.1 t ht), fun t ht => .inl (this.2 t ht)⟩
  ·have := sitesOf_sub h; exact ⟨fun t ht => .inr (this.1 t ht), fun t ht => .inr (this.2 t ht)⟩
 | .cond _ a b, s, h => by
  simp only [sitesOf, List.mem_append] at h ⊢
  rcases h with h | h
  ·have := sitesOf_sub h; exact ⟨fun t ht => .inl (this.1 t ht), fun t ht => .inl (this.2 t ht)⟩
  ·have := sitesOf_sub h; exact ⟨fun t ht => .inr (this.1 t ht), fun t ht => .inr (this.2 t ht)⟩
 | .block _ b, s, h => by simp only [sitesOf] at h ⊢; exact sitesOf_sub h
 | .loop b, s, h => by simp only [sitesOf] at h ⊢; exact sitesOf_sub h
 | .scope b, s, h => by simp only [sitesOf] at h ⊢; exact sitesOf_sub h
 | .rangeFunc _ ps a b, s, h => by
  simp only [sitesOf, List.mem_cons, List.mem_append] at h ⊢
  rcases h with rfl | h | h
  ·exact ⟨fun t ht => .inr (.inl ht), fun t ht => .inr (.inr ht)⟩
  ·have := sitesOf_sub h; exact ⟨fun t ht => .inr (.inl (this.1 t ht)), fun t ht => .inr (.inl (this.2 t ht))⟩
  ·have := sitesOf_sub h; exact ⟨fun t ht => .inr (.inr (this.1 t ht)), fun t ht => .inr (.inr (this.2 t ht))⟩
 | .region .., s, h => by simp [sitesOf] at h
 | .skip, s, h => by simp [sitesOf] at h
 | .exit _, s, h => by simp [sitesOf] at h
 | .label _, s, h => by simp [sitesOf] at h
 | .goto _, s, h => by simp [sitesOf] at h
 | .ret, s, h => by simp [sitesOf] at h
 | .refuse _, s, h => by simp [sitesOf] at h
def slook : List (Nat × List Nat) → Nat → List Nat
 | [], _ => []
 | (k, v) :: l, t => match Nat.beq k t with
  | true => v
  | false => slook l t
end Go.AM
