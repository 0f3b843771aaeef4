set_option linter.unusedVariables false
set_option linter.unusedSimpArgs false
set_option linter.unusedSectionVars false
namespace Go.AM.Kuhn
abbrev Pt := Nat → Option Nat
abbrev St := Nat → Prop
def up (f : Pt) (a b : Nat) : Pt := fun x => if x = a then some b else f x
def add (S : St) (w : Nat) : St := fun x => S x ∨ x = w
theorem up_self (f : Pt) (a b : Nat) : up f a b a = some b := by simp [up]
theorem up_ne {f : Pt} {a b x : Nat} (h : x ≠ a) : up f a b x = f x := by simp [up, h]
/-- A search from c: mates of whites (mu) and of blacks (nu), the whites that have been seen. -/
inductive Run (N : Nat → Nat → Prop) : Pt → Pt → St → Nat → Bool → Pt → Pt → St → Prop
  | fail {mu nu S c} : (∀ w, N c w → S w) → Run N mu nu S c false mu nu S
  | free {mu nu S c w} : N c w → ¬ S w → mu w = none → Run N mu nu S c true (up mu w c) (up nu c w) (add S w)
  | take {mu nu S c w b mu' nu' S'} : N c w → ¬ S w → mu w = some b → Run N mu nu (add S w) b true mu' nu' S' → Run N mu nu S c true (up mu' w c) (up nu' c w) S'
  | skip {mu nu S c w b mu1 nu1 S1 r mu' nu' S'} : N c w → ¬ S w → mu w = some b → Run N mu nu (add S w) b false mu1 nu1 S1 → Run N mu1 nu1 S1 c r mu' nu' S' → Run N mu nu S c r mu' nu' S'
/-- What is good between searches. -/
structure Ok (N : Nat → Nat → Prop) (mu nu : Pt) : Prop where
  inj : ∀ w w' b, mu w = some b → mu w' = some b → w = w'
  cons : ∀ b w, nu b = some w ↔ mu w = some b
  edge : ∀ w b, mu w = some b → N b w
/-- A failed search: nothing has changed, and what it has seen is closed. -/
theorem Run.failed {N : Nat → Nat → Prop} {mu nu : Pt} {S : St} {c : Nat} {r : Bool} {mu' nu' : Pt} {S' : St} (h : Run N mu nu S c r mu' nu' S') (hr : r = false) :
    mu' = mu ∧ nu' = nu ∧ (∀ w, S w → S' w) ∧ (∀ w, N c w → S' w) ∧ ∀ w, S' w → S w ∨ ∃ b, mu w = some b ∧ ∀ w', N b w' → S' w' := by
  induction h with
  | fail h => exact ⟨rfl, rfl, fun _ h => h, h, fun w hw => .inl hw⟩
  | free => simp at hr
  | take => simp at hr
  | skip hN hS hm _ _ ih1 ih2 =>
    obtain ⟨rfl, rfl, a1, a2, a3⟩ := ih1 rfl
    obtain ⟨rfl, rfl, b1, b2, b3⟩ := ih2 hr
    refine ⟨rfl, rfl, fun w hw => b1 w (a1 w (.inl hw)), b2, fun w hw => ?_⟩
    rcases b3 w hw with h | h
    · rcases a3 w h with (h | rfl) | ⟨b, h1, h2⟩
      · exact .inl h
      · exact .inr ⟨_, hm, fun w' hw' => b1 w' (a2 w' hw')⟩
      · exact .inr ⟨b, h1, fun w' hw' => b1 w' (h2 w' hw')⟩
    · exact .inr h
def Closed (N : Nat → Nat → Prop) (mu : Pt) (D : St) : Prop := ∀ w, D w → ∃ b, mu w = some b ∧ ∀ w', N b w' → D w'
structure Won (N : Nat → Nat → Prop) (mu nu : Pt) (S : St) (c : Nat) (mu' nu' : Pt) : Prop where
  p1 : ∀ w, S w → mu' w = mu w
  p2 : ∃ w1, ¬ S w1 ∧ N c w1 ∧ mu' w1 = some c ∧ nu' c = some w1 ∧ ∀ y, mu' y = some c → y = w1 ∨ S y
  p3 : ∀ x, x ≠ c → ∀ y, nu' x = some y ↔ mu' y = some x
  p4 : ∀ y x, mu' y = some x → mu y = some x ∨ x = c ∨ ∃ w, ¬ S w ∧ mu w = some x
  p5 : ∀ y x, mu' y = some x → N x y
  p6 : ∀ w, mu w ≠ none → mu' w ≠ none
  p7 : ∀ D : St, Closed N mu D → (∃ w, N c w ∧ ¬ D w) ∧ ∀ w, D w → mu' w = mu w
  p8 : ∀ x, nu x ≠ none → nu' x ≠ none
theorem Run.won {N : Nat → Nat → Prop} {mu nu : Pt} {S : St} {c : Nat} {r : Bool} {mu' nu' : Pt} {S' : St} (h : Run N mu nu S c r mu' nu' S') (hr : r = true) (hok : Ok N mu nu) (hc : ∀ w, mu w = some c → S w) : Won N mu nu S c mu' nu' := by
  induction h with
  | fail => simp at hr
  | @free mu nu S c w hN hS hm =>
    have hcn : ∀ y, up mu w c y = some c → y = w ∨ S y := fun y hy => by
      by_cases e : y = w
      · exact .inl e
      · rw [up_ne e] at hy; exact .inr (hc y hy)
    refine ⟨fun x hx => ?_, ⟨w, hS, hN, up_self _ _ _, up_self _ _ _, hcn⟩, fun x hx y => ?_, fun y x hy => ?_, fun y x hy => ?_, fun x hx => ?_, fun D hD => ⟨⟨w, hN, fun hw => ?_⟩, fun x hx => ?_⟩, fun x hx => ?_⟩
    · exact up_ne (fun e : x = w => hS (e ▸ hx))
    · rw [up_ne hx, hok.cons x y]
      by_cases e : y = w
      · subst e
        rw [up_self, hm]
        simp
        exact fun e => hx e.symm
      · rw [up_ne e]
    · by_cases e : y = w
      · subst e; rw [up_self] at hy; exact .inr (.inl (Option.some.inj hy).symm)
      · rw [up_ne e] at hy; exact .inl hy
    · by_cases e : y = w
      · subst e; rw [up_self] at hy; cases hy; exact hN
      · rw [up_ne e] at hy; exact hok.edge y x hy
    · by_cases e : x = w
      · subst e; rw [up_self]; simp
      · rw [up_ne e]; exact hx
    · obtain ⟨b, hb, _⟩ := hD w hw
      rw [hm] at hb; simp at hb
    · refine up_ne fun e => ?_
      subst e
      obtain ⟨b, hb, _⟩ := hD x hx
      rw [hm] at hb; simp at hb
    · by_cases e : x = c
      · subst e; rw [up_self]; simp
      · rw [up_ne e]; exact hx
  | @take mu nu S c w b mu' nu' S' hN hS hm _ ih =>
    have hbc : b ≠ c := fun e => hS (hc w (e ▸ hm))
    obtain ⟨q1, ⟨w1, q21, q22, q23, q24, q25⟩, q3, q4, q5, q6, q7, q8⟩ := ih rfl hok (fun y hy => .inr (hok.inj y w b hy hm))
    have hw1 : w1 ≠ w := fun e => q21 (.inr e)
    have hww : mu' w = some b := (q1 w (.inr rfl)).trans hm
    refine ⟨fun x hx => ?_, ⟨w, hS, hN, up_self _ _ _, up_self _ _ _, fun y hy => ?_⟩, fun x hx y => ?_, fun y x hy => ?_, fun y x hy => ?_, fun x hx => ?_, fun D hD => ?_, fun x hx => ?_⟩
    · rw [up_ne (fun e : x = w => hS (e ▸ hx))]
      exact q1 x (.inl hx)
    · by_cases e : y = w
      · exact .inl e
      · rw [up_ne e] at hy
        rcases q4 y c hy with h | h | ⟨z, hz1, hz2⟩
        · exact .inr (hc y h)
        · exact absurd h.symm hbc
        · exact absurd (hc z hz2) fun h => hz1 (.inl h)
    · rw [up_ne hx]
      by_cases hxb : x = b
      · subst hxb
        constructor
        · intro h
          rw [q24] at h
          cases h
          rw [up_ne hw1]; exact q23
        · intro h
          have e : y ≠ w := fun e => by subst e; rw [up_self] at h; exact hbc (Option.some.inj h).symm
          rw [up_ne e] at h
          rcases q25 y h with h2 | h2
          · rw [h2]; exact q24
          · rcases h2 with h2 | h2
            · have : mu y = some x := (q1 y (.inl h2)).symm.trans h
              exact absurd (hok.inj y w x this hm) e
            · exact absurd h2 e
      · rw [q3 x hxb y]
        by_cases e : y = w
        · subst e
          rw [up_self, hww]
          simp
          exact ⟨fun e => absurd e.symm hxb, fun e => absurd e.symm hx⟩
        · rw [up_ne e]
    · by_cases e : y = w
      · subst e; rw [up_self] at hy; exact .inr (.inl (Option.some.inj hy).symm)
      · rw [up_ne e] at hy
        rcases q4 y x hy with h | h | ⟨z, hz1, hz2⟩
        · exact .inl h
        · exact .inr (.inr ⟨w, hS, h ▸ hm⟩)
        · exact .inr (.inr ⟨z, fun h => hz1 (.inl h), hz2⟩)
    · by_cases e : y = w
      · subst e; rw [up_self] at hy; cases hy; exact hN
      · rw [up_ne e] at hy; exact q5 y x hy
    · by_cases e : x = w
      · subst e; rw [up_self]; simp
      · rw [up_ne e]; exact q6 x hx
    · obtain ⟨⟨z, hz1, hz2⟩, h2⟩ := q7 D hD
      have hwD : ¬ D w := fun hw => by
        obtain ⟨b', hb, hcl⟩ := hD w hw
        rw [hm] at hb
        cases hb
        exact hz2 (hcl z hz1)
      refine ⟨⟨w, hN, hwD⟩, fun x hx => ?_⟩
      rw [up_ne (fun e : x = w => hwD (e ▸ hx))]
      exact h2 x hx
    · by_cases e : x = c
      · subst e; rw [up_self]; simp
      · rw [up_ne e]; exact q8 x hx
  | @skip mu nu S c w b mu1 nu1 S1 r mu' nu' S' hN hS hm h1 _ ih1 ih2 =>
    obtain ⟨rfl, rfl, a1, a2, a3⟩ := h1.failed rfl
    obtain ⟨q1, ⟨w1, q21, q22, q23, q24, q25⟩, q3, q4, q5, q6, q7, q8⟩ := ih2 hr hok (fun y hy => a1 y (.inl (hc y hy)))
    refine ⟨fun x hx => q1 x (a1 x (.inl hx)), ⟨w1, fun h => q21 (a1 w1 (.inl h)), q22, q23, q24, fun y hy => ?_⟩, q3, fun y x hy => ?_, q5, q6, q7, q8⟩
    · rcases q25 y hy with h | h
      · exact .inl h
      · refine .inr (hc y ?_)
        rw [← q1 y h]; exact hy
    · rcases q4 y x hy with h | h | ⟨z, hz1, hz2⟩
      · exact .inl h
      · exact .inr (.inl h)
      · exact .inr (.inr ⟨z, fun h => hz1 (a1 z (.inl h)), hz2⟩)
/-- Between searches: a set of whites that no way leads out of, with the blacks whose searches failed. -/
structure Inv (N : Nat → Nat → Prop) (mu nu : Pt) (D : St) (done : Nat → Prop) : Prop where
  ok : Ok N mu nu
  closed : Closed N mu D
  each : ∀ b, done b → nu b ≠ none ∨ ∀ w, N b w → D w
  only : ∀ b, nu b ≠ none → done b
theorem Inv.next {N : Nat → Nat → Prop} {mu nu : Pt} {D : St} {done : Nat → Prop} (h : Inv N mu nu D done) {c : Nat} (hc : ¬ done c) {r : Bool} {mu' nu' : Pt} {S' : St} (hr : Run N mu nu (fun _ => False) c r mu' nu' S') :
    ∃ D', Inv N mu' nu' D' fun x => done x ∨ x = c := by
  have hcn : nu c = none := by
    cases e : nu c with
    | none => rfl
    | some w => exact absurd (h.only c (by rw [e]; simp)) hc
  cases r with
  | false =>
    obtain ⟨rfl, rfl, a1, a2, a3⟩ := hr.failed rfl
    refine ⟨fun w => D w ∨ S' w, h.ok, fun w hw => ?_, fun b hb => ?_, fun b hb => .inl (h.only b hb)⟩
    · rcases hw with hw | hw
      · obtain ⟨b, h1, h2⟩ := h.closed w hw
        exact ⟨b, h1, fun w' hw' => .inl (h2 w' hw')⟩
      · rcases a3 w hw with h1 | ⟨b, h1, h2⟩
        · exact h1.elim
        · exact ⟨b, h1, fun w' hw' => .inr (h2 w' hw')⟩
    · rcases hb with hb | rfl
      · rcases h.each b hb with h1 | h1
        · exact .inl h1
        · exact .inr fun w hw => .inl (h1 w hw)
      · exact .inr fun w hw => .inr (a2 w hw)
  | true =>
    have hW := hr.won rfl h.ok fun w hw => by
      rw [← h.ok.cons c w, hcn] at hw; simp at hw
    obtain ⟨w1, q21, q22, q23, q24, q25⟩ := hW.p2
    have hcons : ∀ b w, nu' b = some w ↔ mu' w = some b := fun b w => by
      by_cases e : b = c
      · subst e
        constructor
        · intro hh; rw [q24] at hh; cases hh; exact q23
        · intro hh
          rcases q25 w hh with h1 | h1
          · rw [h1]; exact q24
          · exact h1.elim
      · exact hW.p3 b e w
    refine ⟨D, ⟨fun w w' b h1 h2 => ?_, hcons, hW.p5⟩, fun w hw => ?_, fun b hb => ?_, fun b hb => ?_⟩
    · rw [← hcons] at h1 h2
      rw [h1] at h2
      exact Option.some.inj h2
    · obtain ⟨b, h1, h2⟩ := h.closed w hw
      exact ⟨b, ((hW.p7 D h.closed).2 w hw).trans h1, h2⟩
    · rcases hb with hb | rfl
      · rcases h.each b hb with h1 | h1
        · exact .inl (hW.p8 b h1)
        · exact .inr h1
      · left; rw [q24]; simp
    · cases e : nu' b with
      | none => exact absurd e hb
      | some w =>
        have hm := (hcons b w).1 e
        rcases hW.p4 w b hm with h1 | h1 | ⟨z, _, h1⟩
        · exact .inl (h.only b (by rw [(h.ok.cons b w).2 h1]; simp))
        · exact .inr h1
        · exact .inl (h.only b (by rw [(h.ok.cons b z).2 h1]; simp))
end Go.AM.Kuhn
