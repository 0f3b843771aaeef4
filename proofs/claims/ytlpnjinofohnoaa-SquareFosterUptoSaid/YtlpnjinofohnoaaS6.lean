import Derived.Test.YtlpnjinofohnoaaS32
import Derived.Test.YtlpnjinofohnoaaS15
import Derived.Test.YtlpnjinofohnoaaS74
set_option linter.unusedVariables false
set_option linter.unusedSimpArgs false
namespace Go.AM
open Go Go.Proofs
theorem cutR_len : ∀ (n : Nat) (w h x y : Int) (acc : List Sq) (b : Bool) (out : List Sq), acc.length ≤ 16 → cutR n w h x y acc = some (b, out) → out.length ≤ 16
  | 0, w, h, x, y, acc, b, out, hl, hc => by simp [cutR] at hc
  | n + 1, w, h, x, y, acc, b, out, hl, hc => by
    unfold cutR at hc
    cases hgo : (decide (w > 0) && decide (h > 0)) with
    | false =>
      rw [hgo] at hc
      simp only [Option.some.injEq, Prod.mk.injEq] at hc
      rw [← hc.2]
      exact hl
    | true =>
      rw [hgo] at hc
      simp only at hc
      by_cases hf : acc.length = 16
      · rw [if_pos hf] at hc
        simp only [Option.some.injEq, Prod.mk.injEq] at hc
        rw [← hc.2]
        simp
      · rw [if_neg hf] at hc
        have hl2 : ∀ q : Sq, (acc ++ [q]).length ≤ 16 := fun q => by simp; omega
        cases hw : decide (w > h) with
        | true => rw [hw] at hc; exact cutR_len n _ _ _ _ _ _ _ (hl2 _) hc
        | false => rw [hw] at hc; exact cutR_len n _ _ _ _ _ _ _ (hl2 _) hc
theorem cutAns_len {n : Nat} {w h : Int} {e : Int} {out : List Sq} (ha : cutAns n w h = some (e, out)) : out.length ≤ 16 := by
  unfold cutAns at ha
  cases hr : rectB w h with
  | false => rw [hr] at ha; simp only [Option.some.injEq, Prod.mk.injEq] at ha; rw [← ha.2]; simp
  | true =>
    rw [hr] at ha
    simp only at ha
    cases hR : cutR n w h 0 0 [] with
    | none => rw [hR] at ha; simp at ha
    | some r =>
      obtain ⟨b, o⟩ := r
      rw [hR] at ha
      cases b with
      | true => simp only [Option.some.injEq, Prod.mk.injEq] at ha; rw [← ha.2]; simp
      | false =>
        simp only [Option.some.injEq, Prod.mk.injEq] at ha
        rw [← ha.2]
        exact cutR_len n w h 0 0 [] _ _ (by simp) hR

theorem spec32 (call : CallF) (fuel base : Nat) (m : M) (acc : List Sq) (s1 s2 : Value) (b1 b2 : Nat) (h1 : SqIs b1 m s1 acc) (h2 : SqIs b2 m s2 acc) (hl : acc.length ≤ 16) (hf : 17 ≤ fuel) :
    r32 call fuel base s1 s2 m = some (.ret (.bool true), m) := by
  unfold r32
  rw [k1_fun, vcall_fun, fVal_fun, len43 base m b1 s1 acc h1]
  simp only [k2]
  rw [len43 base m b2 s2 acc h2]
  have e : mbin E .neq 3 (.int .i64 (acc.length : Int)) (.int .i64 (acc.length : Int)) = some (.bool ((acc.length : Int) != acc.length)) := rfl
  simp only [k1n, e]
  have e2 : ((acc.length : Int) != acc.length) = false := by simp
  rw [e2]
  simp only [kb]
  rcases h1 with ⟨rfl, rfl⟩ | ⟨ha, r1, _, rfl, q1⟩
  · rcases h2 with ⟨_, rfl⟩ | ⟨hb, _⟩
    · obtain ⟨k, rfl⟩ : ∃ k, fuel = k + 1 := ⟨fuel - 1, by omega⟩
      exact (L32_succ call _ base k _ _ _ _ 0 m).trans (by kernel_rfl)
    · simp at hb
  · rcases h2 with ⟨hb, _⟩ | ⟨_, r2, _, rfl, q2⟩
    · rw [hb] at ha; simp at ha
    · exact loop32 call fuel base _ _ m acc r1 r2 (by omega) q1 q2 fuel 0 (by omega) (by omega)

noncomputable def scs : List (Nat × SC) := [(15, sc15), (74, sc74), (75, sc75), (79, sc79)]
theorem scs_ok : ∀ p ∈ scs, SCok E p := fun p hp => by
  simp only [scs, List.mem_cons, List.not_mem_nil, or_false] at hp
  rcases hp with rfl | rfl | rfl | rfl
  · exact sc15_ok
  · exact sc74_ok
  · exact sc75_ok
  · exact sc79_ok
noncomputable def rt (n : Nat) : CallF := scallN scs E.pure tab n
theorem rt_sound (n : Nat) : SoundCall E (rt n) := scallN_sound E_good E_mix _ tab_ok scs_ok n

theorem rt_imp {f : FuncId} {rf : RF} (hs : sfind f scs = none) (hf : rfind f tab = some rf) (hp : E.pure f = false) (n base : Nat) (args : List Value) (m : M) : rt (n + 1) base f args m = rf (rt n) n base args m := by
  show scallN scs E.pure tab (n + 1) base f args m = _
  unfold scallN
  simp only [scall, hs, hf, hp]
  rfl
theorem rt_pure {f : FuncId} {rf : RF} (hs : sfind f scs = none) (hf : rfind f tab = some rf) (hp : E.pure f = true) (n base : Nat) (args : List Value) (m m1 : M) (v : Value) (h : rf (rt n) n m.length args m = some (.ret v, m1)) (hv : vflat v = true) : rt (n + 1) base f args m = some (.ret v, m) := by
  show scallN scs E.pure tab (n + 1) base f args m = _
  unfold scallN
  simp only [scall, hs, hf, hp, xlen_eq, fNat_eq]
  have h' : rf (scallN scs E.pure tab n) n m.length args m = some (.ret v, m1) := h
  rw [h']
  simp only [hv]
theorem rt15 (n base : Nat) (m : M) : rt (n + 1) base 15 [] m = some (.ret (.bool true), m) := by
  show scallN scs E.pure tab (n + 1) base 15 [] m = _
  unfold scallN
  have : scall scs 15 [] m = some (.bool true) := by kernel_rfl
  rw [this]

theorem rt74 (n base : Nat) (w h : Int) (q : Sq) (m : M) : rt (n + 1) base 74 [vi w, vi h, vq q] m = some (.ret (.bool (withinB w h q)), m) := by
  show scallN scs E.pure tab (n + 1) base 74 _ m = _
  unfold scallN
  have : scall scs 74 [vi w, vi h, vq q] m = fVal (.bool (withinB w h q)) some := by kernel_rfl
  rw [this, fVal_eq]
theorem rt75 (n base : Nat) (a b : Sq) (m : M) : rt (n + 1) base 75 [vq a, vq b] m = some (.ret (.bool (overB a b)), m) := by
  show scallN scs E.pure tab (n + 1) base 75 _ m = _
  unfold scallN
  have : scall scs 75 [vq a, vq b] m = fVal (.bool (overB a b)) some := by kernel_rfl
  rw [this, fVal_eq]
theorem rt52 (n base : Nat) (w h : Int) (m : M) : rt (n + 1) base 52 [vi w, vi h] m = some (.ret (.bool (rectB w h)), m) :=
  rt_pure (f := 52) (rf := rf52) (by kernel_rfl) (by kernel_rfl) (by kernel_rfl) n base _ m m _ (spec52 (rt n) n m.length w h m) rfl
theorem rt54 (n base : Nat) (w h : Int) (m : M) : rt (n + 1) base 54 [vi w, vi h] m = some (.ret (.bool (rectB w h)), m) :=
  rt_pure (f := 54) (rf := rf54) (by kernel_rfl) (by kernel_rfl) (by kernel_rfl) n base _ m m _ (spec54 (rt n) n m.length w h m) rfl
end Go.AM
