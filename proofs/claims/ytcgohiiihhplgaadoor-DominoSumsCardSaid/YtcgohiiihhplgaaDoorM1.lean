set_option linter.unusedVariables false
set_option linter.unusedSimpArgs false
set_option linter.unusedSectionVars false
namespace Go.AM.Kuhn
abbrev Pt := Nat → Option Nat
abbrev St := Nat → Prop
def up (f : Pt) (a b : Nat) : Pt := fun x => if x = a then some b else f x
def add (S : St) (w : Nat) : St := fun x => S x ∨ x = w
/-- A search from c: mates of whites (mu) and of blacks (nu), the whites that have been seen. -/
inductive Run (N : Nat → Nat → Prop) : Pt → Pt → St → Nat → Bool → Pt → Pt → St → Prop
  | fail {mu nu S c} : (∀ w, N c w → S w) → Run N mu nu S c false mu nu S
  | free {mu nu S c w} : N c w → ¬ S w → mu w = none → Run N mu nu S c true (up mu w c) (up nu c w) (add S w)
  | take {mu nu S c w b mu' nu' S'} : N c w → ¬ S w → mu w = some b → Run N mu nu (add S w) b true mu' nu' S' → Run N mu nu S c true (up mu' w c) (up nu' c w) S'
  | skip {mu nu S c w b mu1 nu1 S1 r mu' nu' S'} : N c w → ¬ S w → mu w = some b → Run N mu nu (add S w) b false mu1 nu1 S1 → Run N mu1 nu1 S1 c r mu' nu' S' → Run N mu nu S c r mu' nu' S'
/-- What is good between searches. -/
structure Ok (N : Nat → Nat → Prop) (mu nu : Pt) : Prop where
  inj : ∀ w w' b, mu w = some b → mu w' = some b → w = w'
  cons : ∀ b w, nu b = some w ↔ mu w = some b
  edge : ∀ w b, mu w = some b → N b w
def Closed (N : Nat → Nat → Prop) (mu : Pt) (D : St) : Prop := ∀ w, D w → ∃ b, mu w = some b ∧ ∀ w', N b w' → D w'
/-- Between searches: a set of whites that no way leads out of, with the blacks whose searches failed. -/
structure Inv (N : Nat → Nat → Prop) (mu nu : Pt) (D : St) (done : Nat → Prop) : Prop where
  ok : Ok N mu nu
  closed : Closed N mu D
  each : ∀ b, done b → nu b ≠ none ∨ ∀ w, N b w → D w
  only : ∀ b, nu b ≠ none → done b
end Go.AM.Kuhn
