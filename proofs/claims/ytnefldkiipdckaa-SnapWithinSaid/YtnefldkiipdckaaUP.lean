import Derived.ChangeStays
import Derived.Deep.DeepHandedRow
import Derived.Deep.Slices
import Derived.Deep.Strs
import Derived.JoinedCond
import Derived.KernelRfl
import Derived.LaidLaws
import Derived.Laws.BytesArg
import Derived.Laws.StructEq
import Derived.OpenShut
import Derived.ProofKit
import Derived.RangeFuncLeaves
import Derived.RangeFuncRecord
import Derived.RowKit
import Derived.Test.YtnefldkiipdckaaProg
import Derived.Test.YtnefldkiipdckaaRows
import Derived.WalkKit
import Derived.Test.YtnefldkiipdckaaAmB
import Derived.Test.YtnefldkiipdckaaAmG
import Derived.Test.YtnefldkiipdckaaAmModel
import Derived.Test.YtnefldkiipdckaaAmRel
import Derived.Test.YtnefldkiipdckaaAmOps6
import Derived.Test.YtnefldkiipdckaaAmCode
import Derived.Test.YtnefldkiipdckaaAmDraw5
import Derived.Test.YtnefldkiipdckaaAmEq
import Derived.Test.YtnefldkiipdckaaRBase
import Derived.Test.YtnefldkiipdckaaR82
import Derived.Test.YtnefldkiipdckaaAmS
import Derived.Test.YtnefldkiipdckaaS16
import Derived.Test.YtnefldkiipdckaaS17
import Derived.Test.YtnefldkiipdckaaNM1
import Derived.Test.YtnefldkiipdckaaNA
import Derived.Test.YtnefldkiipdckaaTE
import Derived.Test.YtnefldkiipdckaaCA
import Derived.Test.YtnefldkiipdckaaTSL
import Derived.Test.YtnefldkiipdckaaTL
set_option linter.unusedVariables false
set_option linter.unusedSimpArgs false
set_option linter.unusedSectionVars false
namespace Go.AM
open Go Go.Proofs
theorem SI.rcv {l0 : List Int} {s : Nt} (I : NInv s) (hE : EI s) (hK : CK s) (h : SI l0 s) (a b : Int) : SI l0 (rcvS s a b) := by
  unfold rcvS
  split
  · exact h
  · rename_i e
    obtain ⟨A, B, rfl, rfl, h1, h2, h3⟩ := chkF_0 (n := s.n) (a := a) (b := b) (by omega)
    rw [Int.toNat_natCast, Int.toNat_natCast]
    unfold recvN
    cases hc : s.ch A B with
    | nil => exact h
    | cons w l =>
      cases w with
      | par q c =>
        show SI l0 (if 400 ≤ s.evs.length then ((8 : Int), s) else (0, dropS (recvS s A B q c) A B l)).2
        split
        · exact h
        · exact h.recvDrop hE h1 h2 h3 hc (by omega)
      | mark no =>
        obtain ⟨m1, m2⟩ := I.mrk A B no (by rw [hc]; simp)
        exact h.heedDrop hE hK m1 m2 h1 h2 h3 hc
theorem SI.act {l0 : List Int} {s : Nt} (I : NInv s) (hE : EI s) (hK : CK s) (h : SI l0 s) (a : ActD) : SI l0 (actN s a) := by
  unfold actN
  split
  · unfold workN
    split
    · rename_i e
      obtain ⟨A, e1, h1, h2, h3⟩ := workE_0 e
      rw [e1, Int.toNat_natCast]
      exact h.work hE h1 h2 h3
    · exact h
  · split
    · unfold sendN
      split
      · rename_i e
        obtain ⟨A, B, e1, e2, h1, h2, h3, h4, h5, h6⟩ := sendE_0 e
        rw [e1, e2, Int.toNat_natCast, Int.toNat_natCast]
        exact h.send hE h1 h2 h3 h4 h5 h6
      · exact h
    · split
      · unfold startN
        split
        · rename_i e
          unfold startE at e
          split at e
          · rename_i h1
            exact h.start hE hK (by omega)
          · omega
        · exact h
      · exact h.rcv I hE hK _ _
theorem SI.acts {l0 : List Int} {s : Nt} (I : NInv s) (hE : EI s) (hK : CK s) (h : SI l0 s) : ∀ l : List ActD, SI l0 (actsN s l) := by
  intro l
  induction l generalizing s with
  | nil => exact h
  | cons a l ih => exact ih (I.act a) (hE.act a) (hK.act hE a) (h.act I hE hK a)
def sumI (f : Nat → Int) : Nat → Int
  | 0 => 0
  | n + 1 => sumI f n + f n
theorem sumI_congr {f g : Nat → Int} : ∀ {n : Nat}, (∀ i, i < n → f i = g i) → sumI f n = sumI g n
  | 0, _ => rfl
  | n + 1, h => by
    unfold sumI
    rw [sumI_congr (fun i hi => h i (by omega)), h n (by omega)]
theorem sumI_one {f g : Nat → Int} {j : Nat} {d : Int} : ∀ {n : Nat}, j < n → (∀ i, i < n → i ≠ j → f i = g i) → f j = g j + d → sumI f n = sumI g n + d
  | 0, h, _, _ => by omega
  | n + 1, h, hi, hd => by
    unfold sumI
    by_cases e : j = n
    · subst e
      rw [sumI_congr (g := g) (fun i hi' => hi i (by omega) (by omega)), hd]
      omega
    · rw [sumI_one (by omega) (fun i a b => hi i (by omega) b) hd, hi n (by omega) (by omega)]
      omega
theorem sumI_zero {n : Nat} : sumI (fun _ => 0) n = 0 := by
  induction n with
  | zero => rfl
  | succ n ih => unfold sumI; rw [ih]; rfl
def sumL : List Int → Int
  | [] => 0
  | x :: L => x + sumL L
theorem sumL_app : ∀ (L K : List Int), sumL (L ++ K) = sumL L + sumL K
  | [], K => by show sumL K = 0 + sumL K; omega
  | x :: L, K => by
    show x + sumL (L ++ K) = x + sumL L + sumL K
    rw [sumL_app L K]; omega
theorem sumL_nth : ∀ (L : List Int), sumL L = sumI (nth L) L.length := by
  intro L
  have key : ∀ n, n ≤ L.length → sumI (nth L) n = sumL (L.take n) := by
    intro n
    induction n with
    | zero => intro _; simp [sumI, sumL]
    | succ n ih =>
      intro hn
      rw [List.take_succ_eq_append_getElem (by omega), sumL_app, ← ih (by omega)]
      show sumI (nth L) n + nth L n = sumI (nth L) n + (L[n] + 0)
      rw [nth_get (by omega)]
      omega
  rw [key _ (Nat.le_refl _), List.take_length]
/-- All pieces of a net. -/
def totN (s : Nt) : Int := sumI (fun a => s.pcs a + sumI (fun b => sumL (parP (s.ch a b))) s.n) s.n
/-- The works among the first events. -/
def wksF (w : Nat → Bool) (l : List Evt) : Nat → Int
  | 0 => 0
  | t + 1 => wksF w l t + (if w t && decide ((evt l t).what = 1) then (evt l t).pcs else 0)
theorem tot_work (s : Nt) {a : Nat} (ha : a < s.n) (x : Int) : totN (workS s a x) = totN s + x := by
  unfold totN
  refine sumI_one (j := a) ha (fun i _ hi => ?_) ?_
  · show upd s.pcs a (s.pcs a + x) i + _ = _
    rw [upd_ne _ _ hi]
    rfl
  · show upd s.pcs a (s.pcs a + x) a + sumI (fun b => sumL (parP (s.ch a b))) s.n = _
    rw [upd_self]
    omega
theorem tot_send (s : Nt) {a b : Nat} (ha : a < s.n) (hb : b < s.n) (x : Int) : totN (sendS s a b x) = totN s := by
  obtain ⟨c, hc⟩ : ∃ c, (sendS s a b x).ch = upd2 s.ch a b (s.ch a b ++ [.par x c]) := ⟨_, rfl⟩
  unfold totN
  have e := sumI_one (f := fun i => (sendS s a b x).pcs i + sumI (fun j => sumL (parP ((sendS s a b x).ch i j))) s.n) (g := fun i => s.pcs i + sumI (fun j => sumL (parP (s.ch i j))) s.n) (j := a) (d := 0) ha (fun i _ hi => ?_) ?_
  · rw [Int.add_zero] at e
    exact e
  · show upd s.pcs a (s.pcs a - x) i + sumI (fun j => sumL (parP ((sendS s a b x).ch i j))) s.n = _
    rw [upd_ne _ _ hi, hc]
    congr 1
    refine sumI_congr fun j _ => ?_
    rw [upd2_ne _ _ (fun hh => hi hh.1)]
  · show upd s.pcs a (s.pcs a - x) a + sumI (fun j => sumL (parP ((sendS s a b x).ch a j))) s.n = _
    have hin : sumI (fun j => sumL (parP (upd2 s.ch a b (s.ch a b ++ [.par x c]) a j))) s.n = sumI (fun j => sumL (parP (s.ch a j))) s.n + x := by
      refine sumI_one (j := b) hb (fun j _ hj => ?_) ?_
      · show sumL (parP (upd2 s.ch a b (s.ch a b ++ [.par x c]) a j)) = _
        rw [upd2_ne _ _ (fun hh => hj hh.2)]
      · show sumL (parP (upd2 s.ch a b (s.ch a b ++ [.par x c]) a b)) = _
        rw [upd2_self, parP_app, sumL_app]
        show _ + (x + 0) = _
        omega
    rw [upd_self, hc, hin]
    omega
theorem tot_recv (s : Nt) {a b : Nat} (ha : a < s.n) (hb : b < s.n) {q : Int} {c : Nat → Int} {L : List Ms} (hc : s.ch a b = .par q c :: L) : totN (dropS (recvS s a b q c) a b L) = totN s := by
  have hch : ∀ x y, (dropS (recvS s a b q c) a b L).ch x y = if x = a ∧ y = b then L else s.ch x y := fun x y => rfl
  have hpc : ∀ x, (dropS (recvS s a b q c) a b L).pcs x = upd s.pcs b (s.pcs b + q) x := fun x => rfl
  have hin : sumI (fun j => sumL (parP ((dropS (recvS s a b q c) a b L).ch a j))) s.n = sumI (fun j => sumL (parP (s.ch a j))) s.n + -q := by
    refine sumI_one (j := b) hb (fun j _ hj => ?_) ?_
    · show sumL (parP ((dropS (recvS s a b q c) a b L).ch a j)) = _
      rw [hch, if_neg (fun hh => hj hh.2)]
    · show sumL (parP ((dropS (recvS s a b q c) a b L).ch a b)) = sumL (parP (s.ch a b)) + -q
      rw [hch, if_pos ⟨rfl, rfl⟩, hc]
      show sumL (parP L) = q + sumL (parP L) + -q
      omega
  have hout : ∀ i, i ≠ a → sumI (fun j => sumL (parP ((dropS (recvS s a b q c) a b L).ch i j))) s.n = sumI (fun j => sumL (parP (s.ch i j))) s.n := fun i hi => sumI_congr fun j _ => by
    rw [hch, if_neg (fun hh => hi hh.1)]
  show sumI (fun i => (dropS (recvS s a b q c) a b L).pcs i + sumI (fun j => sumL (parP ((dropS (recvS s a b q c) a b L).ch i j))) s.n) s.n = _
  have e1 : sumI (fun i => (dropS (recvS s a b q c) a b L).pcs i + sumI (fun j => sumL (parP ((dropS (recvS s a b q c) a b L).ch i j))) s.n) s.n = sumI (fun i => (dropS (recvS s a b q c) a b L).pcs i + sumI (fun j => sumL (parP (s.ch i j))) s.n) s.n + -q :=
    sumI_one (j := a) ha (fun i _ hi => by
      show _ + sumI _ s.n = _
      rw [hout i hi]) (by
      show _ + sumI _ s.n = _
      rw [hin]; omega)
  have e2 : sumI (fun i => (dropS (recvS s a b q c) a b L).pcs i + sumI (fun j => sumL (parP (s.ch i j))) s.n) s.n = totN s + q :=
    sumI_one (j := b) hb (fun i _ hi => by
      show (dropS (recvS s a b q c) a b L).pcs i + _ = _
      rw [hpc, upd_ne _ _ hi]) (by
      show (dropS (recvS s a b q c) a b L).pcs b + _ = _
      rw [hpc, upd_self]; omega)
  rw [e1, e2]
  omega
/-- An event that is accepted changes the sum by its work. -/
theorem tot_ap {V : Nt} {e : Evt} (hw : 1 ≤ e.what ∧ e.what ≤ 3) (hp : ∀ a b no, Ms.mark no ∉ V.ch a b) (h : okE V e = true) : totN (apE V e) = totN V + (if e.what = 1 then e.pcs else 0) ∧ ((apE V e).n = V.n) := by
  unfold okE at h
  unfold apE
  by_cases h1 : e.what = 1
  · rw [if_pos h1, decide_eq_true_eq] at h
    rw [if_pos h1, if_pos h1]
    obtain ⟨A, e1, h2, _⟩ := workE_0 h
    unfold workN
    rw [if_pos h, e1, Int.toNat_natCast]
    exact ⟨tot_work V h2 _, rfl⟩
  · rw [if_neg h1] at h ⊢
    rw [if_neg h1]
    by_cases h2 : e.what = 2
    · rw [if_pos h2, decide_eq_true_eq] at h
      rw [if_pos h2]
      obtain ⟨A, B, e1, e2, h3, h4, _⟩ := sendE_0 h
      unfold sendN
      rw [if_pos h, e1, e2, Int.toNat_natCast, Int.toNat_natCast, tot_send V h3 h4]
      exact ⟨by omega, rfl⟩
    · rw [if_neg h2, decide_eq_true_eq] at h
      rw [if_neg h2]
      unfold rcvE at h
      unfold rcvS
      split at h
      · omega
      · rename_i hc
        rw [if_neg hc]
        obtain ⟨A, B, e1, e2, h3, h4, h5⟩ := chkF_0 (n := V.n) (a := e.other) (b := e.st) (by omega)
        rw [e1, e2, Int.toNat_natCast, Int.toNat_natCast] at h ⊢
        unfold recvN at h ⊢
        cases hch : V.ch A B with
        | nil => rw [hch] at h; simp at h
        | cons w L =>
          rw [hch] at h
          cases w with
          | mark no => exact absurd (by rw [hch]; exact List.mem_cons_self) (hp A B no)
          | par q c =>
            simp only at h ⊢
            by_cases hl : 400 ≤ V.evs.length
            · rw [if_pos hl] at h; simp at h
            · rw [if_neg hl]
              rw [tot_recv V h3 h4 hch]
              exact ⟨by omega, rfl⟩
theorem tot_init (l : List Int) : totN (initS l) = sumL l := by
  rw [sumL_nth]
  unfold totN
  show sumI (fun a => nth l a + sumI (fun b => sumL (parP [])) l.length) l.length = _
  refine sumI_congr fun i _ => ?_
  show nth l i + sumI (fun _ => 0) l.length = _
  rw [sumI_zero]
  omega
/-- A run of sends, receives and works puts no markers. -/
theorem ap_par {V : Nt} {e : Evt} (hp : ∀ a b no, Ms.mark no ∉ V.ch a b) : ∀ a b no, Ms.mark no ∉ (apE V e).ch a b := by
  intro a b no hh
  unfold apE at hh
  split at hh
  · unfold workN at hh
    split at hh
    · exact hp a b no hh
    · exact hp a b no hh
  · split at hh
    · unfold sendN at hh
      split at hh
      · have hc : ∀ (s : Nt) A B x, ∃ c, (sendS s A B x).ch = upd2 s.ch A B (s.ch A B ++ [.par x c]) := fun s A B x => ⟨_, rfl⟩
        obtain ⟨c, hc⟩ := hc V e.st.toNat e.other.toNat e.pcs
        rw [hc] at hh
        by_cases ee : a = e.st.toNat ∧ b = e.other.toNat
        · rw [ee.1, ee.2, upd2_self] at hh
          rcases List.mem_append.1 hh with hh | hh
          · exact hp _ _ _ hh
          · simp at hh
        · rw [upd2_ne _ _ ee] at hh
          exact hp _ _ _ hh
      · exact hp a b no hh
    · unfold rcvS at hh
      split at hh
      · exact hp a b no hh
      · unfold recvN at hh
        cases hch : V.ch e.other.toNat e.st.toNat with
        | nil => rw [hch] at hh; exact hp a b no hh
        | cons w L =>
          rw [hch] at hh
          cases w with
          | mark k => exact hp e.other.toNat e.st.toNat k (by rw [hch]; exact List.mem_cons_self)
          | par q c =>
            simp only at hh
            by_cases hl : 400 ≤ V.evs.length
            · rw [if_pos hl] at hh; exact hp a b no hh
            · rw [if_neg hl] at hh
              have hh : Ms.mark no ∈ (if a = e.other.toNat ∧ b = e.st.toNat then L else V.ch a b) := hh
              split at hh
              · exact hp e.other.toNat e.st.toNat no (by rw [hch]; exact List.mem_cons_of_mem _ hh)
              · exact hp a b no hh
/-- The sum after a replay. -/
theorem tot_rep {w : Nat → Bool} {l : List Evt} {l0 : List Int} (hw : ∀ t, t < l.length → 1 ≤ (evt l t).what ∧ (evt l t).what ≤ 3) : ∀ t, t ≤ l.length → (repF w l (initS l0) t).1 = true → totN (repF w l (initS l0) t).2 = sumL l0 + wksF w l t ∧ (repF w l (initS l0) t).2.n = l0.length ∧ ∀ a b no, Ms.mark no ∉ (repF w l (initS l0) t).2.ch a b
  | 0, _, _ => by
    refine ⟨?_, rfl, fun a b no h => by simp [repF, initS] at h⟩
    show totN (initS l0) = sumL l0 + 0
    rw [tot_init]; omega
  | t + 1, ht, h => by
    unfold repF at h ⊢
    unfold wksF
    cases hwt : w t with
    | false =>
      rw [hwt, if_neg (by simp)] at h
      obtain ⟨i1, i2, i3⟩ := tot_rep hw t (by omega) h
      rw [if_neg (by simp), Bool.false_and, if_neg (by simp)]
      exact ⟨by omega, i2, i3⟩
    | true =>
      rw [hwt, if_pos rfl] at h
      simp only [Bool.and_eq_true] at h
      obtain ⟨i1, i2, i3⟩ := tot_rep hw t (by omega) h.1
      obtain ⟨j1, j2⟩ := tot_ap (hw t (by omega)) i3 h.2
      rw [if_pos rfl, Bool.true_and]
      refine ⟨?_, j2.trans i2, ap_par i3⟩
      show totN (apE _ _) = _
      rw [j1, i1]
      by_cases e : (evt l t).what = 1
      · rw [if_pos e, decide_eq_true e, if_pos rfl]; omega
      · rw [if_neg e, decide_eq_false e, if_neg (by simp)]; omega
end Go.AM
namespace Go.AM
open Go Go.Proofs
structure DI (s : Nt) : Prop where
  c : ∀ a, s.ch a a = []
  h : ∀ i t, (s.sh i t).hrd t = []
theorem DI.init (l : List Int) : DI (initS l) := ⟨fun _ => rfl, fun _ _ => rfl⟩
theorem DI.send {s : Nt} (h : DI s) {a b : Nat} (hab : a ≠ b) (x : Int) : DI (sendS s a b x) := by
  obtain ⟨c, hc⟩ : ∃ c, (sendS s a b x).ch = upd2 s.ch a b (s.ch a b ++ [.par x c]) := ⟨_, rfl⟩
  refine ⟨fun i => ?_, h.h⟩
  rw [hc, upd2_ne _ _ (by omega)]
  exact h.c i
theorem DI.recv {s : Nt} (h : DI s) {a b : Nat} (hab : a ≠ b) (q : Int) (c : Nat → Int) (L : List Ms) : DI (dropS (recvS s a b q c) a b L) := by
  refine ⟨fun i => ?_, fun i t => ?_⟩
  · show upd2 s.ch a b L i i = []
    rw [upd2_ne _ _ (by omega)]
    exact h.c i
  · show (hearF s.sh b a q s.ns i t).hrd t = []
    rw [hearF_eq]
    split
    · rename_i e
      obtain ⟨_, rfl⟩ := e
      unfold hearR
      split
      · show upd (s.sh i t).hrd a _ t = []
        rw [upd_ne _ _ (by omega)]
        exact h.h i t
      · exact h.h i t
    · exact h.h i t
theorem DI.record {s : Nt} (h : DI s) (no at_ : Nat) : DI (recordS s no at_) := by
  refine ⟨fun i => ?_, fun i t => ?_⟩
  · rw [recordS_ch, if_neg (fun hh => hh.2.2 hh.1)]
    exact h.c i
  · rw [recordS_sh]
    split
    · exact h.h i t
    · exact h.h i t
theorem DI.heed {s : Nt} (h : DI s) {a b : Nat} (hab : a ≠ b) (no : Nat) (L : List Ms) : DI (dropS (heedS s a b no) a b L) := by
  have hH : DI (heed1 s b no) := by
    unfold heed1
    split
    · exact h
    · exact h.record no b
  refine ⟨fun i => ?_, fun i t => ?_⟩
  · show upd2 (heed1 s b no).ch a b L i i = []
    rw [upd2_ne _ _ (by omega)]
    exact hH.c i
  · show (upd2 (heed1 s b no).sh (no - 1) b (shutR ((heed1 s b no).sh (no - 1) b) a) i t).hrd t = []
    by_cases e : i = no - 1 ∧ t = b
    · obtain ⟨rfl, rfl⟩ := e
      rw [upd2_self]
      exact hH.h _ _
    · rw [upd2_ne _ _ e]
      exact hH.h i t
theorem DI.rcv {s : Nt} (h : DI s) (a b : Int) : DI (rcvS s a b) := by
  unfold rcvS
  split
  · exact h
  · rename_i e
    obtain ⟨A, B, rfl, rfl, h1, h2, h3⟩ := chkF_0 (n := s.n) (a := a) (b := b) (by omega)
    rw [Int.toNat_natCast, Int.toNat_natCast]
    unfold recvN
    cases hc : s.ch A B with
    | nil => exact h
    | cons w l =>
      cases w with
      | par q c =>
        show DI (if 400 ≤ s.evs.length then ((8 : Int), s) else (0, dropS (recvS s A B q c) A B l)).2
        split
        · exact h
        · exact h.recv h3 q c l
      | mark no => exact h.heed h3 no l
theorem DI.workN {s : Nt} (h : DI s) (a x : Int) : DI (workN s a x) := by
  unfold Go.AM.workN
  split
  · exact ⟨h.c, h.h⟩
  · exact h
theorem DI.sendN {s : Nt} (h : DI s) (a b x : Int) : DI (sendN s a b x) := by
  unfold Go.AM.sendN
  split
  · rename_i e
    obtain ⟨A, B, e1, e2, h1, h2, h3, _⟩ := sendE_0 e
    rw [e1, e2, Int.toNat_natCast, Int.toNat_natCast]
    exact h.send h3 x
  · exact h
theorem DI.act {s : Nt} (h : DI s) (a : ActD) : DI (actN s a) := by
  unfold actN
  split
  · exact h.workN _ _
  · split
    · exact h.sendN _ _ _
    · split
      · unfold startN
        split
        · refine DI.record ?_ _ _
          refine ⟨h.c, fun i t => ?_⟩
          show (if i = s.ns then zeroR else s.sh i t).hrd t = []
          split
          · rfl
          · exact h.h i t
        · exact h
      · exact h.rcv _ _
theorem DI.acts {s : Nt} (h : DI s) : ∀ l : List ActD, DI (actsN s l) := by
  intro l
  induction l generalizing s with
  | nil => exact h
  | cons a l ih => exact ih (h.act a)
theorem DI.ap {V : Nt} (h : DI V) (e : Evt) : DI (apE V e) := by
  unfold apE
  split
  · exact h.workN _ _
  · split
    · exact h.sendN _ _ _
    · exact h.rcv _ _
theorem DI.rep {w : Nat → Bool} {l : List Evt} {l0 : List Int} : ∀ t, DI (repF w l (initS l0) t).2
  | 0 => DI.init l0
  | t + 1 => by
    unfold repF
    split
    · exact (DI.rep t).ap _
    · exact DI.rep t
theorem evs_what {s : Nt} (hE : EI s) : ∀ t, t < s.evs.length → 1 ≤ (evt s.evs t).what ∧ (evt s.evs t).what ≤ 3 := fun t ht => by
  have e := okEv_iff.1 (hE.ok t ht).1
  omega
/-- What a snapshot that is done has recorded. -/
theorem snap_V {l0 : List Int} {s : Nt} (h : SI l0 s) (hD : DI s) {i : Nat} (hd : ∀ t, t < s.n → (s.sh i t).made = true ∧ ∀ f, f < s.n → (s.sh i t).opn f = false) :
    (rep l0 s i).1 = true ∧ (rep l0 s i).2.n = s.n ∧ (∀ t, t < s.n → (rep l0 s i).2.pcs t = (s.sh i t).pcs) ∧ ∀ a b, a < s.n → b < s.n → parP ((rep l0 s i).2.ch a b) = (s.sh i b).hrd a := by
  have v := h.vr i
  refine ⟨h.ok i, v.n, fun t ht => ?_, fun a b ha hb => ?_⟩
  · rw [v.pcs t ht, (hd t ht).1, if_pos rfl]
  · by_cases e : a = b
    · subst e
      have hr : DI (rep l0 s i).2 := DI.rep _
      rw [hr.c, hD.h]
      rfl
    · rw [v.ch a b ha hb e]
      unfold conC
      rw [(hd a ha).1, (hd b hb).1, (hd b hb).2 a ha]
      show (s.sh i b).hrd a ++ [] = _
      rw [List.append_nil]
end Go.AM
namespace Go.AM
open Go Go.Proofs
def PosE (s : Nt) : Prop := ∀ i t, 0 ≤ (s.sh i t).evs
theorem PosE.init (l : List Int) : PosE (initS l) := fun _ _ => Int.le_refl _
theorem PosE.record {s : Nt} (h : PosE s) (I : NInv s) (no at_ : Nat) : PosE (recordS s no at_) := fun i t => by
  rw [recordS_sh]
  split
  · exact (I.ck at_ at_).1
  · exact h i t
theorem PosE.rcv {s : Nt} (h : PosE s) (I : NInv s) (a b : Int) : PosE (rcvS s a b) := by
  unfold rcvS
  split
  · exact h
  · unfold recvN
    cases hc : s.ch a.toNat b.toNat with
    | nil => exact h
    | cons w l =>
      cases w with
      | par q c =>
        show PosE (if 400 ≤ s.evs.length then ((8 : Int), s) else (0, dropS (recvS s a.toNat b.toNat q c) a.toNat b.toNat l)).2
        split
        · exact h
        · intro i t
          show 0 ≤ (hearF s.sh b.toNat a.toNat q s.ns i t).evs
          rw [hearF_eq]
          split
          · rw [(hearR_same _ _ _).2.2.1]; exact h _ _
          · exact h _ _
      | mark no =>
        have hH : PosE (heed1 s b.toNat no) := by
          unfold heed1
          split
          · exact h
          · exact h.record I _ _
        intro i t
        show 0 ≤ (upd2 (heed1 s b.toNat no).sh (no - 1) b.toNat (shutR ((heed1 s b.toNat no).sh (no - 1) b.toNat) a.toNat) i t).evs
        by_cases e : i = no - 1 ∧ t = b.toNat
        · rw [e.1, e.2, upd2_self]; exact hH _ _
        · rw [upd2_ne _ _ e]; exact hH _ _
theorem PosE.act {s : Nt} (h : PosE s) (I : NInv s) (a : ActD) : PosE (actN s a) := by
  unfold actN
  split
  · unfold workN; split <;> exact h
  · split
    · unfold sendN; split <;> exact h
    · split
      · unfold startN
        split
        · intro i t
          show 0 ≤ ((recordS (newS s) (s.ns + 1) a.2.1.toNat).sh i t).evs
          rw [recordS_sh]
          split
          · exact (I.ck _ _).1
          · show 0 ≤ (if i = s.ns then zeroR else s.sh i t).evs
            split
            · exact Int.le_refl _
            · exact h _ _
        · exact h
      · exact h.rcv I _ _
theorem PosE.acts {s : Nt} (h : PosE s) (I : NInv s) : ∀ l : List ActD, PosE (actsN s l) := by
  intro l
  induction l generalizing s with
  | nil => exact h
  | cons a l ih => exact ih (h.act I a) (I.act a)
def sW (w : Nat → Bool) (l : List Evt) (a b : Int) : Nat → Nat
  | 0 => 0
  | t + 1 => sW w l a b t + if w t && isSnd (evt l t) a b then 1 else 0
def rW (w : Nat → Bool) (l : List Evt) (a b : Int) : Nat → Nat
  | 0 => 0
  | t + 1 => rW w l a b t + if w t && isRcv (evt l t) a b then 1 else 0
theorem rep_ok {w : Nat → Bool} {l : List Evt} {V0 : Nt} : ∀ {t j : Nat}, (repF w l V0 t).1 = true → j < t → (repF w l V0 j).1 = true ∧ (w j = true → okE (repF w l V0 j).2 (evt l j) = true)
  | 0, _, _, h => by omega
  | t + 1, j, h, hj => by
    unfold repF at h
    cases hw : w t with
    | false =>
      rw [hw, if_neg (by simp)] at h
      by_cases e : j = t
      · subst e; exact ⟨h, fun h' => by rw [hw] at h'; simp at h'⟩
      · exact rep_ok h (by omega)
    | true =>
      rw [hw, if_pos rfl] at h
      simp only [Bool.and_eq_true] at h
      by_cases e : j = t
      · subst e; exact ⟨h.1, fun _ => h.2⟩
      · exact rep_ok h.1 (by omega)
/-- How one event changes a channel. -/
theorem ap_len {V : Nt} {e : Evt} (hw : 1 ≤ e.what ∧ e.what ≤ 3) (hp : ∀ a b no, Ms.mark no ∉ V.ch a b) (h : okE V e = true) (a b : Nat) : (parP ((apE V e).ch a b)).length + (if isRcv e a b then 1 else 0) = (parP (V.ch a b)).length + (if isSnd e a b then 1 else 0) ∧ (isRcv e a b = true → 0 < (parP (V.ch a b)).length) := by
  unfold okE at h
  unfold apE
  by_cases h1 : e.what = 1
  · rw [if_pos h1, decide_eq_true_eq] at h
    have hs : isSnd e a b = false := by simp [isSnd, h1]
    have hr : isRcv e a b = false := by simp [isRcv, h1]
    rw [if_pos h1, hs, hr]
    unfold workN
    rw [if_pos h]
    exact ⟨rfl, fun h => by simp at h⟩
  · rw [if_neg h1] at h ⊢
    by_cases h2 : e.what = 2
    · rw [if_pos h2, decide_eq_true_eq] at h
      have hr : isRcv e a b = false := by simp [isRcv, h2]
      rw [if_pos h2, hr]
      obtain ⟨A, B, e1, e2, h3, h4, _⟩ := sendE_0 h
      have hs : isSnd e a b = decide (a = A ∧ b = B) := by
        rw [Bool.eq_iff_iff, isSnd_iff, decide_eq_true_eq, e1, e2]
        omega
      unfold sendN
      rw [if_pos h, e1, e2, Int.toNat_natCast, Int.toNat_natCast, hs]
      refine ⟨?_, fun h => by simp at h⟩
      obtain ⟨c, hc⟩ : ∃ c, (sendS V A B e.pcs).ch = upd2 V.ch A B (V.ch A B ++ [.par e.pcs c]) := ⟨_, rfl⟩
      rw [hc]
      by_cases ee : a = A ∧ b = B
      · rw [decide_eq_true ee, ee.1, ee.2, upd2_self, parP_app]
        simp [parP]
      · rw [decide_eq_false ee, upd2_ne _ _ ee]
    · rw [if_neg h2, decide_eq_true_eq] at h
      have h3 : e.what = 3 := by omega
      have hs : isSnd e a b = false := by simp [isSnd, h3]
      rw [if_neg h2, hs]
      unfold rcvE at h
      unfold rcvS
      split at h
      · omega
      · rename_i hc
        rw [if_neg hc]
        obtain ⟨A, B, e1, e2, h4, h5, h6⟩ := chkF_0 (n := V.n) (a := e.other) (b := e.st) (by omega)
        have hr : isRcv e a b = decide (a = A ∧ b = B) := by
          rw [Bool.eq_iff_iff, isRcv_iff, decide_eq_true_eq, e1, e2]
          omega
        rw [e1, e2, Int.toNat_natCast, Int.toNat_natCast] at h ⊢
        rw [hr]
        unfold recvN at h ⊢
        cases hch : V.ch A B with
        | nil => rw [hch] at h; simp at h
        | cons w L =>
          rw [hch] at h
          cases w with
          | mark no => exact absurd (by rw [hch]; exact List.mem_cons_self) (hp A B no)
          | par q c =>
            simp only at h ⊢
            by_cases hl : 400 ≤ V.evs.length
            · rw [if_pos hl] at h; simp at h
            · rw [if_neg hl]
              have hcd : (dropS (recvS V A B q c) A B L).ch a b = if a = A ∧ b = B then L else V.ch a b := rfl
              show (parP ((dropS (recvS V A B q c) A B L).ch a b)).length + _ = _ ∧ _
              rw [hcd]
              by_cases ee : a = A ∧ b = B
              · rw [if_pos ee, decide_eq_true ee, ee.1, ee.2, hch]
                simp [parP]
              · rw [if_neg ee, decide_eq_false ee]
                simp
theorem rep_len {w : Nat → Bool} {l : List Evt} {l0 : List Int} (hw : ∀ t, t < l.length → 1 ≤ (evt l t).what ∧ (evt l t).what ≤ 3) (a b : Nat) : ∀ t, t ≤ l.length → (repF w l (initS l0) t).1 = true → (parP ((repF w l (initS l0) t).2.ch a b)).length + rW w l a b t = sW w l a b t
  | 0, _, _ => rfl
  | t + 1, ht, h => by
    have hk := rep_ok h (show t < t + 1 by omega)
    have ih := rep_len hw a b t (by omega) hk.1
    have hpar := (tot_rep hw t (by omega) hk.1).2.2
    unfold sW rW repF
    cases hwt : w t with
    | false =>
      rw [if_neg (by simp), Bool.false_and, Bool.false_and]
      exact ih
    | true =>
      rw [if_pos rfl, Bool.true_and, Bool.true_and]
      have := (ap_len (hw t (by omega)) hpar (hk.2 hwt) a b).1
      show (parP ((apE _ _).ch a b)).length + _ = _
      omega
/-- The cut is consistent. -/
theorem cut_hold {l0 : List Int} {s : Nt} (hE : EI s) (h : SI l0 s) (hP : PosE s) {i : Nat} (hd : ∀ t, t < s.n → (s.sh i t).made = true ∧ ∀ f, f < s.n → (s.sh i t).opn f = false) {cut : List Int} (hcl : cut.length = s.n) (hc : ∀ t, t < s.n → nth cut t = (s.sh i t).evs) : holdF s.n s.evs cut = true := by
  have hcA : ∀ j, j < s.evs.length → cutAt cut (evt s.evs j).st = (s.sh i (sN s.evs j)).evs := fun j hj => by
    rw [← hc _ (hE.sN hj).2]
    rfl
  have hwn : ∀ j, j < s.evs.length → wthn s i j = decide ((oN s.evs j : Int) < (s.sh i (sN s.evs j)).evs) := fun j hj => by
    unfold wthn
    rw [(hd _ (hE.sN hj).2).1]
    rfl
  unfold holdF
  rw [Bool.and_eq_true]
  constructor
  · unfold holdA
    refine all_range_true fun t ht => ?_
    rw [hc t ht, decide_eq_true (hP i t), decide_eq_true (h.re i t ht (hd t ht).1)]
    rfl
  · rw [holdB_iff]
    intro j hj h3 hin
    obtain ⟨o1, o2⟩ := allOk_get hE.al hj
    obtain ⟨k, hk⟩ := o2 h3
    obtain ⟨k1, k2⟩ := mateF_some s.evs hk
    have hm : mateN s.evs j = k := by unfold mateN; rw [hk]; rfl
    rw [hm]
    have hkl : k < s.evs.length := by omega
    rw [hcA j hj] at hin
    rw [hcA k hkl]
    have hin : (oN s.evs j : Int) < (s.sh i (sN s.evs j)).evs := hin
    obtain ⟨sj1, sj2⟩ := hE.sN hj
    obtain ⟨sk1, sk2⟩ := hE.sN hkl
    obtain ⟨w1, w2, w3⟩ := isSnd_iff.1 k2
    -- the stations
    have eb : (evt s.evs j).st = (sN s.evs j : Nat) := sj1
    have ea : (evt s.evs j).other = (sN s.evs k : Nat) := by rw [← w2]; exact sk1
    rcases Int.lt_or_le ((oN s.evs k : Nat) : Int) (s.sh i (sN s.evs k)).evs with hlt | hge
    · exact hlt
    · exfalso
      have hok := rep_ok (h.ok i) hj
      have hwj : wthn s i j = true := by rw [hwn j hj]; exact decide_eq_true hin
      have hr : isRcv (evt s.evs j) (sN s.evs k : Nat) (sN s.evs j : Nat) = true := isRcv_iff.2 ⟨h3, eb, ea⟩
      have hpar := (tot_rep (evs_what hE) j (by omega) hok.1).2.2
      have hpos := (ap_len (evs_what hE j hj) hpar (hok.2 hwj) (sN s.evs k) (sN s.evs j)).2 hr
      have hlen := rep_len (l0 := l0) (w := wthn s i) (evs_what hE) (sN s.evs k) (sN s.evs j) j (by omega) hok.1
      -- all receives before are within
      have hrw : ∀ t, t ≤ j → rW (wthn s i) s.evs (sN s.evs k : Nat) (sN s.evs j : Nat) t = rcvN s.evs (sN s.evs k : Nat) (sN s.evs j : Nat) t := by
        intro t
        induction t with
        | zero => intro _; rfl
        | succ t ih =>
          intro ht
          have e : rcvN s.evs (sN s.evs k : Nat) (sN s.evs j : Nat) (t + 1) = rcvN s.evs (sN s.evs k : Nat) (sN s.evs j : Nat) t + if isRcv (evt s.evs t) (sN s.evs k : Nat) (sN s.evs j : Nat) then 1 else 0 := by
            show (if isRcv (evt s.evs t) _ _ then _ else _) = _
            split <;> rfl
          unfold rW
          rw [e, ih (by omega)]
          congr 1
          cases hq : isRcv (evt s.evs t) (sN s.evs k : Nat) (sN s.evs j : Nat) with
          | false => rw [Bool.and_false]
          | true =>
            have hst := (isRcv_iff.1 hq).2.1
            have htl : t < s.evs.length := by omega
            have hsn : sN s.evs t = sN s.evs j := by
              have := (hE.sN htl).1
              omega
            have h8 := ordN_mono s.evs (sN s.evs j : Nat) (show t ≤ j by omega)
            have ho : oN s.evs t = ordN s.evs (sN s.evs j : Nat) t := by unfold oN; rw [hst]
            have hoj : oN s.evs j = ordN s.evs (sN s.evs j : Nat) j := by unfold oN; rw [← eb]
            have hlt : (oN s.evs t : Int) < (s.sh i (sN s.evs j)).evs := by omega
            rw [hwn t htl, hsn, decide_eq_true hlt, Bool.true_and]
      have hsw : ∀ t, k ≤ t → t ≤ j → sW (wthn s i) s.evs (sN s.evs k : Nat) (sN s.evs j : Nat) t ≤ (sndL s.evs (sN s.evs k : Nat) (sN s.evs j : Nat) k).length := by
        intro t
        induction t with
        | zero =>
          intro _ _
          exact Nat.zero_le _
        | succ t ih =>
          intro h1 h2
          by_cases hkt : k = t + 1
          · rw [hkt]
            exact sW_le _ _ _ _ _
          · have ih' := ih (by omega) (by omega)
            unfold sW
            cases hq : isSnd (evt s.evs t) (sN s.evs k : Nat) (sN s.evs j : Nat) with
            | false => rw [Bool.and_false]; simpa using ih'
            | true =>
              have hst := (isSnd_iff.1 hq).2.1
              have htl : t < s.evs.length := by omega
              have hsn : sN s.evs t = sN s.evs k := by
                have := (hE.sN htl).1
                omega
              have h8 := ordN_mono s.evs (sN s.evs k : Nat) (show k ≤ t by omega)
              have ho : oN s.evs t = ordN s.evs (sN s.evs k : Nat) t := by unfold oN; rw [hst]
              have hok2 : oN s.evs k = ordN s.evs (sN s.evs k : Nat) k := by unfold oN; rw [← sk1]
              have hnl : ¬ (oN s.evs t : Int) < (s.sh i (sN s.evs k)).evs := by omega
              rw [hwn t htl, hsn, decide_eq_false hnl, Bool.false_and]
              simpa using ih'
      have hnum := sndL_num (l := s.evs) (evt s.evs j).other (evt s.evs j).st hk
      rw [ea, eb] at hnum
      have a1 := hrw j (Nat.le_refl _)
      have a2 := hsw j (by omega) (Nat.le_refl _)
      omega
where
  sW_le (w : Nat → Bool) (l : List Evt) (a b : Int) : ∀ t, sW w l a b t ≤ (sndL l a b t).length
    | 0 => Nat.le_refl _
    | t + 1 => by
      have := sW_le w l a b t
      show sW w l a b t + _ ≤ (if isSnd (evt l t) a b then sndL l a b t ++ [t] else sndL l a b t).length
      cases hq : isSnd (evt l t) a b with
      | false => rw [Bool.and_false, if_neg (by simp), if_neg (by simp)]; omega
      | true =>
        rw [if_pos (c := true = true) rfl, List.length_append]
        show _ + (if _ then 1 else 0) ≤ _ + 1
        split <;> omega
end Go.AM
namespace Go.AM
open Go Go.Proofs
theorem s86 : slk 86 1 = true := by kernel_rfl
theorem s84 : slk 84 1 = true := by kernel_rfl
theorem a86 : agg1 86 = true := by kernel_rfl
theorem gstB {t : TypeId} (h : szk t 1 = true) {base : Nat} {m : M} {p off z n : Nat} {ex : Bool} (hb : base ≤ p) (hd : Hd m p z ex n) (ho : off < n) (b : Bool) : xstore E.P base m t (pt p off) (.bool b) = some (mwr m p off [.bool b]) :=
  gst1 h rfl rfl hb hd ho
/-- A row of bools. -/
structure BRow (own : Nat → Nat) (t : Nat) (m : M) (r n : Nat) (f : Nat → Bool) : Prop where
  hd : Hd m r 1 true n
  tg : own r = t
  cell : ∀ i, i < n → mcell m r i = some (.bool (f i))
section
variable {own own' : Nat → Nat} {t : Nat} {m m' : M} {r n : Nat} {f g : Nat → Bool}
theorem BRow.step {T : Nat → Prop} (h : BRow own t m r n f) (s : Step T own m own' m') (ht : ¬ T t) : BRow own' t m' r n f :=
  ⟨s.hd h.hd (by rw [h.tg]; exact ht), (s.tg r h.hd.lt).trans h.tg, fun i hi => s.cell (h.cell i hi) (by rw [h.tg]; exact ht)⟩
theorem BRow.congr (h : BRow own t m r n f) (e : ∀ i, i < n → f i = g i) : BRow own t m r n g := ⟨h.hd, h.tg, fun i hi => by rw [← e i hi]; exact h.cell i hi⟩
theorem BRow.get (h : BRow own t m r n f) {j : Nat} (hj : j < n) (K : Value → Res2) : (k1n (mindexAddr E.P 86 (sl r n) (vi j)) fun a => k1n (xload E.P m 4 a) K) = K (.bool (f j)) := by
  rw [gix s86 r 0 n n j hj, k1s, Nat.zero_add, Nat.mul_one, gld1 a4, h.cell j hj, k1s]
theorem BRow.set (h : BRow own t m r n f) {base : Nat} (hb : base ≤ r) {j : Nat} (hj : j < n) (b : Bool) : ∃ m', (∀ K : M → Res2, (k1n (mindexAddr E.P 86 (sl r n) (vi j)) fun a => ks (xstore E.P base m 4 a (.bool b)) K) = K m') ∧ Step (· = t) own m own m' ∧ BRow own t m' r n (fun q => if q = j then b else f q) := by
  refine ⟨mwr m r j [.bool b], fun K => ?_, Step.wr h.tg _ _, mwr_hd h.hd, h.tg, fun i hi => ?_⟩
  · rw [gix s86 r 0 n n j hj, k1s, Nat.zero_add, Nat.mul_one, gstB z4 hb h.hd hj, kss]
  · by_cases e : i = j
    · subst e
      rw [if_pos rfl]
      exact (mwr_in (vs := [.bool b]) h.hd (by simp; omega)).cell
    · rw [if_neg e, mwr_out (by simp; omega)]
      exact h.cell i hi
theorem BRow.new (own : Nat → Nat) (t : Nat) (m : M) (n : Nat) : BRow (upd own m.length t) t (m ++ [rowz 1 true (List.replicate n (.bool false))]) m.length n (fun _ => false) := by
  refine ⟨?_, upd_self _ _ _, fun i hi => ?_⟩
  · have := Hd_new m 1 true (List.replicate n (.bool false))
    rw [List.length_replicate] at this
    exact this
  · have h1 : (List.replicate n (.bool false : Value))[i]? = some (.bool false) := by rw [List.getElem?_replicate, if_pos hi]
    have := Cs_new m 1 true (List.replicate n (.bool false)) _ _ h1
    rw [Nat.zero_add] at this
    exact this
end
section
variable {l : List Evt} {v : Value} {own : Nat → Nat} {r : Nat}
/-- The rows that are done. -/
structure CsL (own : Nat → Nat) (m : M) (cs : Value) (l : List Evt) (R : Nat → Nat) (n : Nat) : Prop where
  vec : Vec own 50 1 m cs n fun i => [sl (R i) l.length]
  row : ∀ i, i < n → BRow own (60 + i) m (R i) l.length (hb l i)
theorem CsL.step {own' : Nat → Nat} {m m' : M} {T : Nat → Prop} {cs : Value} {R : Nat → Nat} {n : Nat} (h : CsL own m cs l R n) (s : Step T own m own' m') (hT : ∀ t, T t → ¬ (t = 50 ∨ (60 ≤ t ∧ t < 60 + n))) : CsL own' m' cs l R n :=
  ⟨h.vec.step s (fun a => hT _ a (by omega)), fun i hi => (h.row i hi).step s (fun a => hT _ a (by omega))⟩
theorem CsL.get {m : M} {cs : Value} {R : Nat → Nat} {n : Nat} (h : CsL own m cs l R n) {i j : Nat} (hi : i < n) (hj : j < l.length) (K : Value → Res2) : (k1n (mindexAddr E.P 84 cs (vi i)) fun a => k1n (xload E.P m 86 a) fun w => k1n (mindexAddr E.P 86 w (vi j)) fun a => k1n (xload E.P m 4 a) K) = K (.bool (hb l i j)) := by
  obtain ⟨p, off, e, _, _, hc⟩ := h.vec.lst.ix s84 hi
  rw [e, k1s, gld1 a86, hc.cell, k1s, (h.row i hi).get hj]
end
end Go.AM
namespace Go.AM
open Go Go.Proofs
section
variable {own : Nat → Nat} {k : Nat} {m : M} {p : Nat} {d : NP} {s : Nt}
end
theorem Evs.pcs_ {own : Nat → Nat} {t : Nat} {m : M} {v : Value} {l : List Evt} (h : Evs own t m v l) {j : Nat} (hj : j < l.length) (K : Value → Res2) : (k1n (mindexAddr E.P 45 v (vi j)) fun a => k1n (mfieldAddr E.P 72 a 3) fun a => k1n (xload E.P m 3 a) K) = K (vi (evt l j).pcs) := by
  obtain ⟨p, off, u, e, hc, _⟩ := h.ix hj
  rw [e, k1s, gfd f72_3, k1s, gld1 a3, hc.at 3 rfl, k1s]
section
variable {own : Nat → Nat} {l : List Evt} {v : Value}
end
end Go.AM
namespace Go.AM
open Go Go.Proofs
theorem a60 : agg1 60 = true := by kernel_rfl
theorem a80 : agg1 80 = true := by kernel_rfl
theorem z60 : szk 60 1 = true := by kernel_rfl
theorem z62 : szk 62 2 = true := by kernel_rfl
theorem g62 : aggk 62 2 = true := by kernel_rfl
theorem s80 : slk 80 1 = true := by kernel_rfl
theorem s60 : slk 60 1 = true := by kernel_rfl
theorem i80 : isSl 80 = true := by kernel_rfl
theorem i60 : isSl 60 = true := by kernel_rfl
theorem p60 : appOk 60 1 = true := by kernel_rfl
theorem f62_0 : fdk 62 0 0 = true := by kernel_rfl
theorem f62_1 : fdk 62 1 1 = true := by kernel_rfl
theorem al62 (m : M) : xalloc E.P m 62 = some (pt m.length 0, m ++ [cellR [nilS, nilS]]) := by
  have e : xalloc E.P m 62 = xlen m fun n => xpush m (cellR [nilS, nilS]) fun m' => some (pt n 0, m') := by kernel_rfl
  rw [e, xlen_eq, fNat_eq, xpush_eq, fList_eq]
theorem gb60 (m : M) (a l c : Nat) : xbuildSlice E.P m 60 1 [(0, slo a 0 l c)] = some (sl m.length 1, m ++ [rowz 1 true [slo a 0 l c]]) := by
  have e : xbuildSlice E.P m 60 1 [(0, slo a 0 l c)] = xlen m fun n => xpush m (rowz 1 true [slo a 0 l c]) fun m' => some (sl n 1, m') := by kernel_rfl
  rw [e, xlen_eq, fNat_eq, xpush_eq, fList_eq]
theorem mk80 (m : M) (n : Nat) (h : n ≤ 100) : xmakeSlice E.P m 80 (vi n) (vi n) = some (sl m.length n, m ++ [rowz 1 true (repCells [nilS] n)]) := by
  have e : xmakeSlice E.P m 80 (vi n) (vi n) = if ((n : Int) < 0 ∨ (n : Int) < n ∨ (n : Int) > 2 ^ 39 ∨ 24 > 2 ^ 8) then none else
    xlen m fun k => fNat n fun l => fNat n fun c => fList (repCells [nilS] c) fun cs => xpush m (rowz 1 true cs) fun m' => some (.slice (some ⟨k, 0, none⟩) l c, m') := by kernel_rfl
  rw [e, if_neg (by omega), xlen_eq, fNat_eq, fNat_eq, fNat_eq, fList_eq, xpush_eq, fList_eq]
theorem bl62 : mbuild E.P 62 [] = some (.agg #[nilS, nilS]) := by kernel_rfl
theorem rcC_h (r : Rc) (h : Nat → Value) {i : Nat} (hi : i < 5) : (rcC r h)[8 + i]? = some (h i) := by
  match i, hi with
  | 0, _ | 1, _ | 2, _ | 3, _ | 4, _ => rfl
section
variable {own : Nat → Nat} {k : Nat} {m : M} {p : Nat} {d : NP} {s : Nt} {base : Nat}
/-- Numbers of one's own cloned. -/
theorem cloneV (q : Nat) {t : Nat} {u : Value} {l : List Int} (hO : Own base own) (h : Vec own t 1 m u l.length fun j => [vi (nth l j)]) (hl : l.length ≤ 1000) (hb : base ≤ m.length) :
    ∃ own' m' a c, rt (q + 1) base 74 [u] m = some (.ret (.slice a l.length c), m') ∧ Nums own' 0 m' (.slice a l.length c) l ∧ (∀ T, Step T own m own' m') ∧ Own base own' := by
  by_cases h0 : l = []
  · subst h0
    rcases h with ⟨_, rfl⟩ | ⟨r, off, ex, N, rfl, h1, h2, h3, h4, h5⟩
    · exact ⟨own, m, none, 0, t74n q base m, ⟨_, _, rfl, fun h => by simp at h⟩, fun T => Step.refl _ _ _, hO⟩
    · refine ⟨upd own m.length 0, m ++ [rowz 1 true []], some ⟨m.length, 0, none⟩, 0, ?_, ⟨_, _, rfl, fun h => by simp at h⟩, fun T => Step.push _ _ _ _ _, hO.upd hb 0⟩
      rw [rt_imp (f := 74) (rf := rf74) (by kernel_rfl) (by kernel_rfl) (by kernel_rfl)]
      show r74 (rt q) q base (slo r off 0 0) m = _
      have happ := clone_app (C := fun j => [vi (nth ([] : List Int) j)]) (by omega) base hb (.inr ⟨r, off, ex, N, rfl, h1, h2, h3, h4, h5⟩ : Vec own t 1 m (slo r off 0 0) 0 _) (fun i hi => by omega) (by omega)
      rcases happ with ⟨_, happ⟩ | ⟨hh, _⟩
      · unfold r74
        rw [k1_fun, vcall_fun, fVal_fun, nil22, k1s, kbf, gb22e, k2s, vapp p22, happ, k2s]
        rfl
      · omega
  · obtain ⟨own', m', e, hN, hS, ht, ho, h0', hm', _⟩ := clone22 (base := base) q h.lst h0 hl hb 0
    refine ⟨own', m', _, _, e, hN, hS, fun r hr => ?_⟩
    by_cases e1 : r = m.length
    · subst e1; exact hb
    · by_cases e2 : r = m.length + 1
      · omega
      · rw [ho r e1 e2] at hr
        exact hO r hr
/-- A row of lists of numbers. -/
structure RowU (own : Nat → Nat) (tg : Nat) (m : M) (r n j : Nat) (H : Nat → List Int) : Prop where
  hd : Hd m r 1 true n
  tg : own r = tg
  cell : ∀ t, t < j → ∃ w, mcell m r t = some w ∧ Nums own 0 m w (H t)
theorem RowU.step {own' : Nat → Nat} {m' : M} {T : Nat → Prop} {tg r n j : Nat} {H : Nat → List Int} (h : RowU own tg m r n j H) (st : Step T own m own' m') (ht : ¬ T tg) (h0 : ¬ T 0) : RowU own' tg m' r n j H :=
  ⟨st.hd h.hd (by rw [h.tg]; exact ht), (st.tg r h.hd.lt).trans h.tg, fun t hj => by
    obtain ⟨w, h1, h2⟩ := h.cell t hj
    exact ⟨w, st.cell h1 (by rw [h.tg]; exact ht), Lst.step h2 st h0⟩⟩
theorem loop81b (z : Nat) (kp : Value → M → Res2) (kx : Value → Value → Value → Value → Value → Value → Value → M → Res2) (x2 x3 x8 : Value) {si i r : Nat} (hsi : si < s.ns) (hi : i < s.n) (hbr : base ≤ r) (hlen : ∀ i t f, ((s.sh i t).hrd f).length ≤ 1000) :
    ∀ (w t : Nat) (own : Nat → Nat) (m : M), t ≤ s.n → s.n + 1 ≤ w + t → Own base own → base ≤ m.length → Net own k m p d s → RowU own (302 + i) m r s.n t (fun t => (s.sh si t).hrd i) →
      ∃ own' m', r81_L2 (rt (z + 1)) (z + 1) base kp kx w (sl (d.rr si) s.n) x2 x3 (vi i) (sl r s.n) x8 (vi i) (vi s.n) (vi t) m = kx (sl (d.rr si) s.n) x2 x3 (vi i) (sl r s.n) x8 (vi i) m' ∧ Own base own' ∧ Step (· = 302 + i) own m own' m' ∧ RowU own' (302 + i) m' r s.n s.n (fun t => (s.sh si t).hrd i)
  | 0, t, own, m, ht, hw, hO, hbm, h, hR => by omega
  | w + 1, t, own, m, ht, hw, hO, hbm, h, hR => by
    have n5 := h.n5
    have n8 := h.ns8
    have k0 := h.k0
    rw [r81_L2_s, lssN, k1s]
    by_cases hlt : t < s.n
    · have hcell := (h.N.cs si t hsi hlt).at (8 + i) (rcC_h _ _ (by omega))
      obtain ⟨own1, m1, a, c, e, hN, hS, hO1⟩ := cloneV (base := base) z hO (h.N.hvec si t i hsi hlt (by omega)) (hlen si t i) hbm
      have s1 := hS (fun _ => False)
      have hR1 := hR.step s1 (fun h => h) (fun h => h)
      let m2 : M := mwr m1 r t [.slice a ((s.sh si t).hrd i).length c]
      have s2 : Step (· = 302 + i) own1 m1 own1 m2 := Step.wr (T := (· = 302 + i)) hR1.tg _ _
      have hst : xstore E.P base m1 22 (pt r t) (.slice a ((s.sh si t).hrd i).length c) = some m2 := gstS z22 hbr hR1.hd hlt _ _ _
      have s12 : Step (· = 302 + i) own m own1 m2 := (hS _).trans s2
      have hR2 : RowU own1 (302 + i) m2 r s.n (t + 1) (fun t => (s.sh si t).hrd i) := by
        refine ⟨mwr_hd hR1.hd, hR1.tg, fun q hq => ?_⟩
        by_cases eq : q = t
        · subst eq
          exact ⟨_, (mwr_in (vs := [.slice a ((s.sh si q).hrd i).length c]) hR1.hd (by simp; omega)).cell, Lst.step hN s2 (by omega)⟩
        · obtain ⟨w', q1, q2⟩ := hR1.cell q (by omega)
          exact ⟨w', by rw [mwr_out (by simp; omega)]; exact q1, Lst.step q2 s2 (by omega)⟩
      obtain ⟨own', m', g1, g2, g3, g4⟩ := loop81b z kp kx x2 x3 x8 hsi hi hbr hlen w (t + 1) own1 m2 (by omega) (by omega) hO1 (Nat.le_trans hbm s12.len) (h.step s12 (fun t ht => by omega)) hR2
      refine ⟨own', m', ?_, g2, s12.trans g3, g4⟩
      rw [decide_eq_true hlt, kbt, gix s125 (d.rr si) 0 s.n s.n t hlt, k1s, gfd f147_4, k1s, giA r145 _ _ i (by omega), k1s, gld1 a22, show 0 + t * 13 + 8 + i * 1 = t * 13 + (8 + i) by omega, hcell, k1s, e, kcs, gix s80 r 0 s.n s.n t hlt, k1s, show 0 + t * 1 = t by omega, hst, kss, add1 3 _ (by omega), k1s]
      exact g1
    · obtain rfl : t = s.n := by omega
      refine ⟨own, m, ?_, hO, Step.refl _ _ _, hR⟩
      rw [decide_eq_false hlt, kbf]
/-- A snapshot that is being shown. -/
structure ShotB (own : Nat → Nat) (m : M) (b3 : Nat) (P U : Value) (n j : Nat) (R : Nat → Nat) (pc : Nat → Int) (hr : Nat → Nat → List Int) : Prop where
  hd : Hd m b3 0 true 2
  tg : own b3 = 310
  c0 : mcell m b3 0 = some P
  c1 : mcell m b3 1 = some U
  vp : Vec own 300 1 m P j fun i => [vi (pc i)]
  vu : Vec own 301 1 m U j fun i => [sl (R i) n]
  rows : ∀ i, i < j → RowU own (302 + i) m (R i) n n (hr i)
theorem Vec.isSlo {t z n : Nat} {v : Value} {C : Nat → List Value} (h : Vec own t z m v n C) : ∃ a l c, v = .slice a l c := by
  rcases h with ⟨_, rfl⟩ | ⟨r, off, ex, N, rfl, _⟩
  · exact ⟨_, _, _, rfl⟩
  · exact ⟨_, _, _, rfl⟩
theorem loop81a (z : Nat) (kp : Value → M → Res2) (kx : Value → Value → M → Res2) (x2 : Value) {si b3 : Nat} (hsi : si < s.ns) (hb3 : base ≤ b3) (hlen : ∀ i t f, ((s.sh i t).hrd f).length ≤ 1000) :
    ∀ (w i : Nat) (own : Nat → Nat) (m : M) (P U : Value) (R : Nat → Nat), i ≤ s.n → s.n + 1 ≤ w + i → Own base own → base ≤ m.length → Net own k m p d s → ShotB own m b3 P U s.n i R (fun t => (s.sh si t).pcs) (fun a t => (s.sh si t).hrd a) →
      ∃ own' m' P' U' R', r81_L0 (rt (z + 10)) (z + 10) base kp kx w (sl (d.rr si) s.n) x2 (pt b3 0) (vi s.n) (vi i) m = kx x2 (pt b3 0) m' ∧ Own base own' ∧ Step (fun t => 300 ≤ t ∧ t < 320) own m own' m' ∧ ShotB own' m' b3 P' U' s.n s.n R' (fun t => (s.sh si t).pcs) (fun a t => (s.sh si t).hrd a)
  | 0, i, own, m, P, U, R, hi, hw, hO, hbm, h, hB => by omega
  | w + 1, i, own, m, P, U, R, hi, hw, hO, hbm, h, hB => by
    have n5 := h.n5
    have n8 := h.ns8
    have k0 := h.k0
    rw [r81_L0_s, lssN, k1s]
    by_cases hlt : i < s.n
    · -- the row
      let m1 : M := m ++ [rowz 1 true (List.replicate s.n nilS)]
      let own1 := upd own m.length (302 + i)
      have s1 : ∀ T : Nat → Prop, Step T own m own1 m1 := fun T => Step.push T _ _ _ _
      have hm1 : m1.length = m.length + 1 := by simp [m1]
      have hO1 : Own base own1 := hO.upd hbm _
      have hd1 : Hd m1 m.length 1 true s.n := by
        have := Hd_new m 1 true (List.replicate s.n nilS)
        rw [List.length_replicate] at this
        exact this
      have h1 : Net own1 k m1 p d s := h.step (s1 fun _ => False) (fun _ h => h.elim)
      obtain ⟨own2, m2, g1, hO2, s2, hR2⟩ := loop81b (base := base) (z + 9) (fun v m => kp v m) (fun y0_16 y2_17 y3_18 y4_19 y5_20 y8_21 y9_22 m => (k1n (mfieldAddr E.P 62 y3_18 0) fun v32_23 => (k1n (xload E.P m 22 v32_23) fun v33_24 => (k1n (mindexAddr E.P 125 y0_16 y4_19) fun v36_25 => (k1n (mfieldAddr E.P 147 v36_25 1) fun v37_26 => (k1n (xload E.P m 3 v37_26) fun v38_27 => (k2 (xbuildSlice E.P m 22 1 [(0, v38_27)]) fun v39_28 m => (k2 (vcalln E.P base m .append [22, 22] [v33_24, v39_28]) fun v40_29 m => (k1n (mfieldAddr E.P 62 y3_18 0) fun v41_30 => (ks (xstore E.P base m 22 v41_30 v40_29) fun m => (k1n (mfieldAddr E.P 62 y3_18 1) fun v42_31 => (k1n (xload E.P m 60 v42_31) fun v43_32 => (k2 (xbuildSlice E.P m 60 1 [(0, y5_20)]) fun v45_33 m => (k2 (vcalln E.P base m .append [60, 60] [v43_32, v45_33]) fun v46_34 m => (k1n (mfieldAddr E.P 62 y3_18 1) fun v47_35 => (ks (xstore E.P base m 60 v47_35 v46_34) fun m => (k1n (mbin E .add 3 y9_22 (.int .i64 1)) fun v48_36 => (r81_L0 (rt (z + 10)) (z + 10) base kp kx w y0_16 y2_17 y3_18 y8_21 v48_36 m)))))))))))))))))) x2 (pt b3 0) (vi s.n) hsi hlt hbm hlen (z + 10) 0 own1 m1 (by omega) (by omega) hO1 (by omega) h1 ⟨hd1, upd_self _ _ _, fun t ht => by omega⟩
      have s12 : Step (· = 302 + i) own m own2 m2 := (s1 _).trans s2
      have h2 : Net own2 k m2 p d s := h.step s12 (fun t ht => by omega)
      have hm2 : m1.length ≤ m2.length := s2.len
      have tg2 : own2 b3 = 310 := (s12.tg b3 hB.hd.lt).trans hB.tg
      have hd2 : Hd m2 b3 0 true 2 := s12.hd hB.hd (by rw [hB.tg]; omega)
      have c02 : mcell m2 b3 0 = some P := s12.cell hB.c0 (by rw [hB.tg]; omega)
      have c12 : mcell m2 b3 1 = some U := s12.cell hB.c1 (by rw [hB.tg]; omega)
      have hpcs := (h2.N.cs si i hsi hlt).at 1 rfl
      -- the pieces
      let m3 : M := m2 ++ [rowz 1 true [vi (s.sh si i).pcs]]
      let own3 := upd own2 m2.length 0
      have s3 : ∀ T : Nat → Prop, Step T own2 m2 own3 m3 := fun T => Step.push T _ _ _ _
      have hO3 : Own base own3 := hO2.upd (by omega) 0
      have hm3 : m3.length = m2.length + 1 := by simp [m3]
      obtain ⟨m4, p1, p2, s4, hm4⟩ := ((hB.vp.step s12 (by omega)).step (s3 fun _ => False) (fun h => h)).add hO3 (by omega) (by omega) (src1 (m := m2) (z := 1) (c := [vi (s.sh si i).pcs]) rfl (by omega)) rfl rfl (by omega)
      let own4 := upd own3 m3.length 300
      have hO4 : Own base own4 := hO3.upd (by omega) 300
      have hvp4 := p2 (fun t => [vi (s.sh si t).pcs]) (fun _ _ => rfl) rfl
      have s34 : Step (· = 300) own2 m2 own4 m4 := (s3 _).trans s4
      have tg4 : own4 b3 = 310 := (s34.tg b3 hd2.lt).trans tg2
      have hd4 : Hd m4 b3 0 true 2 := s34.hd hd2 (by rw [tg2]; omega)
      let m5 : M := mwr m4 b3 0 [sl m3.length (i + 1)]
      have s5 : Step (· = 310) own4 m4 own4 m5 := Step.wr tg4 _ _
      have hst5 : xstore E.P base m4 22 (pt b3 0) (sl m3.length (i + 1)) = some m5 := gstS z22 hb3 hd4 (by omega) _ _ _
      have hm5 : m5.length = m4.length := mwr_len _ _ _ _
      have c05 : mcell m5 b3 0 = some (sl m3.length (i + 1)) := (mwr_in (vs := [sl m3.length (i + 1)]) hd4 (by simp)).cell
      have c15 : mcell m5 b3 1 = some U := by
        rw [mwr_out (by simp)]
        exact s34.cell c12 (by rw [tg2]; omega)
      have hd5 : Hd m5 b3 0 true 2 := mwr_hd hd4
      -- what was under way
      let m6 : M := m5 ++ [rowz 1 true [sl m.length s.n]]
      let own6 := upd own4 m5.length 0
      have s6 : ∀ T : Nat → Prop, Step T own4 m5 own6 m6 := fun T => Step.push T _ _ _ _
      have hO6 : Own base own6 := hO4.upd (by omega) 0
      have hm6 : m6.length = m5.length + 1 := by simp [m6]
      have s25 : Step (fun t => t = 300 ∨ t = 310) own2 m2 own4 m5 := (s34.mono fun t ht => .inl ht).trans (s5.mono fun t ht => .inr ht)
      have hvu6 := ((hB.vu.step s12 (by omega)).step s25 (by omega)).step (s6 fun _ => False) (fun h => h)
      obtain ⟨m7, u1, u2, s7, hm7⟩ := hvu6.add hO6 (by omega) (by omega) (src1 (m := m5) (z := 1) (c := [sl m.length s.n]) rfl (by omega)) rfl rfl (by omega)
      let own7 := upd own6 m6.length 301
      have hO7 : Own base own7 := hO6.upd (by omega) 301
      have hvu7 := u2 (fun t => [sl (upd R i m.length t) s.n]) (fun t ht => by rw [upd_ne _ _ (by omega)]) (by rw [upd_self])
      have s67 : Step (· = 301) own4 m5 own7 m7 := (s6 _).trans s7
      have tg7 : own7 b3 = 310 := (s67.tg b3 hd5.lt).trans tg4
      have hd7 : Hd m7 b3 0 true 2 := s67.hd hd5 (by rw [tg4]; omega)
      let m8 : M := mwr m7 b3 1 [sl m6.length (i + 1)]
      have s8 : Step (· = 310) own7 m7 own7 m8 := Step.wr tg7 _ _
      have hst8 : xstore E.P base m7 60 (pt b3 1) (sl m6.length (i + 1)) = some m8 := gstS z60 hb3 hd7 (by omega) _ _ _
      have s58 : Step (fun t => t = 301 ∨ t = 310) own4 m5 own7 m8 := (s67.mono fun t ht => .inl ht).trans (s8.mono fun t ht => .inr ht)
      have s28 : Step (fun t => t = 300 ∨ t = 301 ∨ t = 310) own2 m2 own7 m8 := (s25.mono fun t ht => by omega).trans (s58.mono fun t ht => by omega)
      have hB8 : ShotB own7 m8 b3 (sl m3.length (i + 1)) (sl m6.length (i + 1)) s.n (i + 1) (upd R i m.length) (fun t => (s.sh si t).pcs) (fun a t => (s.sh si t).hrd a) := by
        refine ⟨mwr_hd hd7, tg7, ?_, (mwr_in (vs := [sl m6.length (i + 1)]) hd7 (by simp)).cell, ?_, hvu7.step s8 (by omega), fun q hq => ?_⟩
        · rw [mwr_out (by simp)]
          exact s67.cell c05 (by rw [tg4]; omega)
        · exact (hvp4.step s5 (by omega)).step s58 (by omega)
        · by_cases e : q = i
          · subst e
            rw [upd_self]
            exact hR2.step s28 (by omega) (by omega)
          · rw [upd_ne _ _ e]
            exact ((hB.rows q (by omega)).step s12 (by omega) (by omega)).step s28 (by omega) (by omega)
      have s18 : Step (fun t => 300 ≤ t ∧ t < 320) own m own7 m8 := (s12.mono fun t ht => by omega).trans (s28.mono fun t ht => by omega)
      obtain ⟨own', m', P', U', R', q1, q2, q3, q4⟩ := loop81a z kp kx x2 hsi hb3 hlen w (i + 1) own7 m8 _ _ _ (by omega) (by omega) hO7 (Nat.le_trans hbm s18.len) (h.step s18 (fun t ht => by omega)) hB8
      refine ⟨own', m', P', U', R', ?_, q2, s18.trans q3, q4⟩
      rw [decide_eq_true hlt, kbt, glen i125, k2s, mk80 m s.n (by omega), k2s, rep1, glen i125, k2s, i0]
      refine g1.trans ?_
      rw [gfd f62_0, k1s, gld1 a22, Nat.zero_add, c02, k1s, gix s125 (d.rr si) 0 s.n s.n i hlt, k1s, gfd f147_1, k1s, gld1 a3, show 0 + i * 13 + 1 = i * 13 + 1 by omega, hpcs, k1s, gb22, k2s, vapp p22, p1, k2s, k1s, hst5, kss, gfd f62_1, k1s, gld1 a60, Nat.zero_add, c15, k1s, gb60, k2s, vapp p60, u1, k2s, k1s, hst8, kss, add1 3 _ (by omega), k1s]
      exact q1
    · obtain rfl : i = s.n := by omega
      refine ⟨own, m, P, U, R, ?_, hO, Step.refl _ _ _, hB⟩
      rw [decide_eq_false hlt, kbf]
end
end Go.AM
namespace Go.AM
open Go Go.Proofs
theorem al147 (m : M) : xalloc E.P m 147 = some (pt m.length 0, m ++ [cellR (rcC zeroR fun _ => nilS)]) := by
  have e : xalloc E.P m 147 = xlen m fun n => xpush m (cellR (rcC zeroR fun _ => nilS)) fun m' => some (pt n 0, m') := by kernel_rfl
  rw [e, xlen_eq, fNat_eq, xpush_eq, fList_eq]
/-- What is asked of a snapshot. -/
def snapE (s : Nt) (no : Int) : Int := if findE s no = 0 then (if doneS s (no.toNat - 1) then 0 else 9) else 6
theorem findE_0 {s : Nt} {no : Int} (h : findE s no = 0) : 1 ≤ no ∧ no.toNat - 1 < s.ns := by
  unfold findE at h
  split at h
  · rename_i e; omega
  · omega
theorem eq26 (a : Int) : mbin E .eql 26 (vi a) (.int .i64 0) = some (.bool (decide (a = 0))) := eqlI 26 a 0
structure Shot (own : Nat → Nat) (m : M) (P U : Value) (n : Nat) (R : Nat → Nat) (pc : Nat → Int) (hr : Nat → Nat → List Int) : Prop where
  p : Lst own 300 1 m P n fun i => [vi (pc i)]
  u : Lst own 301 1 m U n fun i => [sl (R i) n]
  rows : ∀ i, i < n → RowU own (302 + i) m (R i) n n (hr i)
theorem Shot.step {own own' : Nat → Nat} {m m' : M} {T : Nat → Prop} {P U : Value} {n : Nat} {R : Nat → Nat} {pc : Nat → Int} {hr : Nat → Nat → List Int} (h : Shot own m P U n R pc hr) (h5 : n ≤ 5) (st : Step T own m own' m') (hT : ∀ t, T t → t ≠ 0 ∧ (t < 300 ∨ 307 ≤ t)) : Shot own' m' P U n R pc hr :=
  ⟨Lst.step h.p st (fun a => by have := hT _ a; omega), Lst.step h.u st (fun a => by have := hT _ a; omega), fun i hi => (h.rows i hi).step st (fun a => by have := hT _ a; omega) (fun a => by have := hT _ a; omega)⟩
section
variable {own : Nat → Nat} {k : Nat} {m : M} {p : Nat} {d : NP} {s : Nt} {base : Nat}
theorem t80 (q : Nat) (hq : 6 ≤ q) (h : Net own k m p d s) (no : Int) : rt (q + 3) base 80 [pt p 0, vi no] m = some (.ret (.tuple #[if snapE s no = 0 then sl (d.rr (no.toNat - 1)) s.n else nilS, vi (snapE s no)]), m) := by
  rw [rt_imp (f := 80) (rf := rf80) (by kernel_rfl) (by kernel_rfl) (by kernel_rfl)]
  show r80 (rt (q + 2)) (q + 2) base (pt p 0) (vi no) m = _
  unfold r80 snapE
  rw [k1_fun, t78 q h no, kcs, ext0, k1s, ext1, k1s, eq26, k1s]
  by_cases h0 : findE s no = 0
  · obtain ⟨_, hi⟩ := findE_0 h0
    rw [decide_eq_true h0, kbt, if_pos h0, if_pos h0, t79 q hq h hi, kcs, notB 4, k1s]
    cases hd : doneS s (no.toNat - 1) with
    | true => rw [Bool.not_true, kbf, h0]; rfl
    | false => rw [Bool.not_false, kbt]; rfl
  · have h6 : findE s no = 6 := by
      unfold findE at h0 ⊢
      split at h0
      · exact absurd rfl h0
      · rename_i e; rw [if_neg e]
    rw [decide_eq_false h0, kbf, if_neg h0, if_neg h0, h6]
    rfl
theorem ld62 {m : M} {b : Nat} {P U : Value} (h0 : mcell m b 0 = some P) (h1 : mcell m b 1 = some U) : xload E.P m 62 (pt b 0) = some (.agg #[P, U]) := by
  have hc : Cs m b 0 [P, U] := fun i v hi => by
    match i with
    | 0 => simp at hi; subst hi; exact h0
    | 1 => simp at hi; subst hi; exact h1
    | i + 2 => simp at hi
  exact gldk g62 hc rfl (by simp)
theorem t81 (z : Nat) {si : Nat} (hsi : si < s.ns) (hlen : ∀ i t f, ((s.sh i t).hrd f).length ≤ 1000) (hO : Own base own) (hbm : base ≤ m.length) (h : Net own k m p d s) :
    ∃ own' m' A l c A' l' c' R, rt (z + 11) base 81 [sl (d.rr si) s.n] m = some (.ret (.agg #[.slice A l c, .slice A' l' c']), m') ∧ Own base own' ∧ Step (fun t => 300 ≤ t ∧ t < 331) own m own' m' ∧ Shot own' m' (.slice A l c) (.slice A' l' c') s.n R (fun t => (s.sh si t).pcs) (fun a t => (s.sh si t).hrd a) := by
  have n5 := h.n5
  have n8 := h.ns8
  have hk0 := h.k0
  rw [rt_imp (f := 81) (rf := rf81) (by kernel_rfl) (by kernel_rfl) (by kernel_rfl)]
  show ∃ own' m' A l c A' l' c' R, r81 (rt (z + 10)) (z + 10) base (sl (d.rr si) s.n) m = _ ∧ _
  let m1 : M := m ++ [cellR [nilS, nilS]]
  let own1 := upd own m.length 330
  have s1 : ∀ T : Nat → Prop, Step T own m own1 m1 := fun T => Step.push T _ _ _ _
  have hm1 : m1.length = m.length + 1 := by simp [m1]
  have hO1 : Own base own1 := hO.upd hbm _
  let m2 : M := m1 ++ [cellR [nilS, nilS]]
  let own2 := upd own1 m1.length 310
  have s2 : ∀ T : Nat → Prop, Step T own1 m1 own2 m2 := fun T => Step.push T _ _ _ _
  have hm2 : m2.length = m1.length + 1 := by simp [m2]
  have hO2 : Own base own2 := hO1.upd (by omega) _
  have s12 : ∀ T : Nat → Prop, Step T own m own2 m2 := fun T => (s1 T).trans (s2 T)
  have h2 : Net own2 k m2 p d s := h.step (s12 fun _ => False) (fun _ h => h.elim)
  have hc2 := Cs_new m1 0 true [nilS, nilS]
  have hB : ShotB own2 m2 m1.length nilS nilS s.n 0 (fun _ => 0) (fun t => (s.sh si t).pcs) (fun a t => (s.sh si t).hrd a) :=
    ⟨Hd_new m1 0 true [nilS, nilS], upd_self _ _ _, hc2 0 _ rfl, hc2 1 _ rfl, .inl ⟨rfl, rfl⟩, .inl ⟨rfl, rfl⟩, fun i hi => by omega⟩
  obtain ⟨own3, m3, P, U, R, g1, hO3, s3, hB3⟩ := loop81a (base := base) z (fun v m => some (.pan v, m)) (fun y2_37 y3_38 m => (k1n (xload E.P m 62 y3_38) fun v49_39 => (ks (xstore E.P base m 62 y2_37 v49_39) fun m => (k0 (mload E.P m 62 y2_37) fun r_40 => some (.ret r_40, m))))) (pt m.length 0) hsi (show base ≤ m1.length by omega) hlen (z + 10) 0 own2 m2 _ _ _ (by omega) (by omega) hO2 (by omega) h2 hB
  obtain ⟨A, l, c, hP⟩ := hB3.vp.isSlo
  obtain ⟨A', l', c', hU⟩ := hB3.vu.isSlo
  have tg2 : own2 m.length = 330 := by
    show upd own1 m1.length 310 m.length = 330
    rw [upd_ne _ _ (by omega)]
    exact upd_self _ _ _
  have hd2 : Hd m2 m.length 0 true 2 := (s2 fun _ => False).hd (Hd_new m 0 true [nilS, nilS]) (fun h => h)
  have hd3 : Hd m3 m.length 0 true 2 := s3.hd hd2 (by rw [tg2]; omega)
  have tg3 : own3 m.length = 330 := (s3.tg _ hd2.lt).trans tg2
  subst hP
  subst hU
  let m4 : M := mwr m3 m.length 0 [.slice A l c, .slice A' l' c']
  have s4 : Step (· = 330) own3 m3 own3 m4 := Step.wr (T := (· = 330)) tg3 _ _
  have hin := mwr_in (vs := [.slice A l c, .slice A' l' c']) hd3 (show 0 + [Value.slice A l c, .slice A' l' c'].length ≤ 2 by simp)
  have hst : xstore E.P base m3 62 (pt m.length 0) (.agg #[.slice A l c, .slice A' l' c']) = some m4 :=
    gstk (t := 62) (k := 2) z62 (l := [.slice A l c, .slice A' l' c']) rfl rfl hbm hd3 (by omega)
  refine ⟨own3, m4, A, l, c, A', l', c', R, ?_, hO3, (s12 _).trans ((s3.mono fun t ht => by omega).trans (s4.mono fun t ht => by omega)), ?_⟩
  · unfold r81
    rw [k1_fun, vcall_fun, fVal_fun, al62, k2s, al62, k2s, glen i125, k2s, i0]
    refine g1.trans ?_
    rw [ld62 hB3.c0 hB3.c1, k1s, hst, kss, ← xload_eq, ld62 (hin 0 _ rfl) (hin 1 _ rfl), k0s]
  · have hS : Shot own3 m3 (.slice A l c) (.slice A' l' c') s.n R (fun t => (s.sh si t).pcs) (fun a t => (s.sh si t).hrd a) := ⟨hB3.vp.lst, hB3.vu.lst, hB3.rows⟩
    exact hS.step n5 s4 (fun t ht => by omega)
theorem t31 (z : Nat) (hlen : ∀ i t f, ((s.sh i t).hrd f).length ≤ 1000) (hO : Own base own) (hbm : base ≤ m.length) (h : Net own k m p d s) (no : Int) :
    ∃ own' m' A l c A' l' c', rt (z + 12) base 31 [pt p 0, vi no] m = some (.ret (.tuple #[.agg #[.slice A l c, .slice A' l' c'], vi (snapE s no)]), m') ∧ Own base own' ∧ Step (fun t => 300 ≤ t ∧ t < 332) own m own' m' ∧
      (snapE s no = 0 → ∃ R, Shot own' m' (.slice A l c) (.slice A' l' c') s.n R (fun t => (s.sh (no.toNat - 1) t).pcs) (fun a t => (s.sh (no.toNat - 1) t).hrd a)) := by
  have n5 := h.n5
  have hk0 := h.k0
  rw [rt_imp (f := 31) (rf := rf31) (by kernel_rfl) (by kernel_rfl) (by kernel_rfl)]
  show ∃ own' m' A l c A' l' c', r31 (rt (z + 11)) (z + 11) base (pt p 0) (vi no) m = _ ∧ _
  let m1 : M := m ++ [cellR [nilS, nilS]]
  let own1 := upd own m.length 331
  have s1 : ∀ T : Nat → Prop, Step T own m own1 m1 := fun T => Step.push T _ _ _ _
  have hm1 : m1.length = m.length + 1 := by simp [m1]
  have hO1 : Own base own1 := hO.upd hbm _
  have h1 : Net own1 k m1 p d s := h.step (s1 fun _ => False) (fun _ h => h.elim)
  have hd1 : Hd m1 m.length 0 true 2 := Hd_new m 0 true [nilS, nilS]
  have tg1 : own1 m.length = 331 := upd_self _ _ _
  have h80 := t80 (base := base) (z + 8) (by omega) h1 no
  unfold r31
  rw [k1_fun, al62, k2s, h80, kcs, ext0, k1s, ext1, k1s, neqE, k1s]
  by_cases h0 : snapE s no = 0
  · have hsi : no.toNat - 1 < s.ns := by
      unfold snapE at h0
      split at h0
      · rename_i e; exact (findE_0 e).2
      · omega
    obtain ⟨own2, m2, A, l, c, A', l', c', R, g1, hO2, s2, hS⟩ := t81 (base := base) z hsi hlen hO1 (by omega) h1
    have hd2 : Hd m2 m.length 0 true 2 := s2.hd hd1 (by rw [tg1]; omega)
    have tg2 : own2 m.length = 331 := (s2.tg _ hd1.lt).trans tg1
    let m3 : M := mwr m2 m.length 0 [.slice A l c, .slice A' l' c']
    have s3 : Step (· = 331) own2 m2 own2 m3 := Step.wr (T := (· = 331)) tg2 _ _
    have hin := mwr_in (vs := [.slice A l c, .slice A' l' c']) hd2 (show 0 + [Value.slice A l c, .slice A' l' c'].length ≤ 2 by simp)
    have hst : xstore E.P base m2 62 (pt m.length 0) (.agg #[.slice A l c, .slice A' l' c']) = some m3 :=
      gstk (t := 62) (k := 2) z62 (l := [.slice A l c, .slice A' l' c']) rfl rfl hbm hd2 (by omega)
    refine ⟨own2, m3, A, l, c, A', l', c', ?_, hO2, (s1 _).trans ((s2.mono fun t ht => by omega).trans (s3.mono fun t ht => by omega)), fun _ => ⟨R, hS.step n5 s3 (fun t ht => by omega)⟩⟩
    rw [decide_eq_true h0, Bool.not_true, kbf, if_pos h0, g1, kcs, hst, kss, ← xload_eq, ld62 (hin 0 _ rfl) (hin 1 _ rfl), k0s, h0]
    rfl
  · let m3 : M := mwr m1 m.length 0 [nilS, nilS]
    have s3 : Step (· = 331) own1 m1 own1 m3 := Step.wr (T := (· = 331)) tg1 _ _
    have hin := mwr_in (vs := [nilS, nilS]) hd1 (show 0 + [nilS, nilS].length ≤ 2 by simp)
    have hst : xstore E.P base m1 62 (pt m.length 0) (.agg #[nilS, nilS]) = some m3 :=
      gstk (t := 62) (k := 2) z62 (l := [nilS, nilS]) rfl rfl hbm hd1 (by omega)
    refine ⟨own1, m3, none, 0, 0, none, 0, 0, ?_, hO1, (s1 _).trans (s3.mono fun t ht => by omega), fun h => absurd h h0⟩
    rw [decide_eq_false h0, Bool.not_false, kbt, bl62, k1s, hst, kss, ← xload_eq, ld62 (hin 0 _ rfl) (hin 1 _ rfl), k0s]
def cutS (s : Nt) (si : Nat) : List Int := (List.range s.n).map fun t => (s.sh si t).evs
theorem cutS_len (s : Nt) (si : Nat) : (cutS s si).length = s.n := by simp [cutS]
theorem cutS_nth {s : Nt} {si t : Nat} (h : t < s.n) : nth (cutS s si) t = (s.sh si t).evs := by
  unfold nth cutS
  rw [List.getElem?_map, List.getElem?_range h]
  rfl
theorem loop82 (call : CallF) (fuel base : Nat) (kx : Value → M → Res2) {si r : Nat} (hsi : si < s.ns) (hbr : base ≤ r) :
    ∀ (w t : Nat) (m : M), t ≤ s.n → s.n + 1 ≤ w + t → base ≤ m.length → Net own k m p d s → Hd m r 1 true s.n → own r = 45 → (∀ q, q < t → mcell m r q = some (vi (s.sh si q).evs)) →
      ∃ m', r82_L0 call fuel base kx w (sl r s.n) (sl (d.rr si) s.n) (vi s.n) (vi t) m = kx (sl r s.n) m' ∧ Step (· = 45) own m own m' ∧ Nums own 45 m' (sl r s.n) (cutS s si)
  | 0, t, m, ht, hw, hbm, h, hd, tg, hq => by omega
  | w + 1, t, m, ht, hw, hbm, h, hd, tg, hq => by
    have n5 := h.n5
    have n8 := h.ns8
    have hk0 := h.k0
    rw [r82_L0_s, lssN, k1s]
    by_cases hlt : t < s.n
    · have hcs := h.N.cs si t hsi hlt
      let m1 : M := m ++ [cellR (rcC (s.sh si t) (d.hv si t))]
      have s1 : Step (· = 45) own m own m1 := Step.push0 _ own m [_]
      have hcn := Cs_new m 0 true (rcC (s.sh si t) (d.hv si t))
      have hall : (rcC (s.sh si t) (d.hv si t)).all (·.oneCell') = true := by
        have hv : ∀ f, f < 5 → (d.hv si t f).oneCell' = true := fun f hf => by
          obtain ⟨a, l, c, e⟩ := (h.N.hvec si t f hsi hlt hf).isSlo
          rw [e]; rfl
        simp only [rcC, List.all_cons, List.all_nil, Bool.and_true, hv 0 (by omega), hv 1 (by omega), hv 2 (by omega), hv 3 (by omega), hv 4 (by omega)]
        rfl
      have hst : xstore E.P base (m ++ [cellR (rcC zeroR fun _ => nilS)]) 147 (pt m.length 0) (.agg (rcC (s.sh si t) (d.hv si t)).toArray) = some m1 := by
        have := gstk (t := 147) (k := 13) z147 (l := rcC (s.sh si t) (d.hv si t)) rfl hall (off := 0) hbm (Hd_new m 0 true (rcC zeroR fun _ => nilS)) (by simp [rcC])
        rw [mwr_new m 0 true (rcC zeroR fun _ => nilS) (rcC (s.sh si t) (d.hv si t)) rfl] at this
        exact this
      have hd1 : Hd m1 r 1 true s.n := hd.congr (push_get hd.lt)
      let m2 : M := mwr m1 r t [vi (s.sh si t).evs]
      have s2 : Step (· = 45) own m1 own m2 := Step.wr (T := (· = 45)) tg _ _
      have hst2 : xstore E.P base m1 3 (pt r t) (vi (s.sh si t).evs) = some m2 := gstI z3 hbr hd1 hlt _
      have s12 := s1.trans s2
      obtain ⟨m', g1, g2, g3⟩ := loop82 call fuel base kx hsi hbr w (t + 1) m2 (by omega) (by omega) (Nat.le_trans hbm s12.len) (h.step s12 (fun t ht => by omega)) (mwr_hd hd1) tg (fun q hq' => by
        by_cases e : q = t
        · subst e
          exact (mwr_in (vs := [vi (s.sh si q).evs]) hd1 (by simp; omega)).cell
        · rw [mwr_out (by simp; omega), mcell_congr (push_get hd.lt)]
          exact hq q (by omega))
      refine ⟨m', ?_, s12.trans g2, g3⟩
      rw [decide_eq_true hlt, kbt, gix s125 (d.rr si) 0 s.n s.n t hlt, k1s, Nat.zero_add, gldk g147 hcs rfl (by simp [rcC]), k1s, al147, k2s, hst, kss, gfd f147_2, k1s, gld1 a3, hcn.at 2 rfl, k1s, gix s22 r 0 s.n s.n t hlt, k1s, show 0 + t * 1 = t by omega, hst2, kss, add1 3 _ (by omega), k1s]
      exact g1
    · obtain rfl : t = s.n := by omega
      refine ⟨m, ?_, Step.refl _ _ _, ?_⟩
      · rw [decide_eq_false hlt, kbf]
      · refine ⟨some ⟨r, 0, none⟩, s.n, by rw [cutS_len], fun _ => ⟨r, 0, rfl, hd.lt, tg, fun i hi => ?_⟩⟩
        rw [cutS_len] at hi
        rw [Nat.zero_add, Nat.mul_one]
        show Cs m r i [vi (nth (cutS s si) i)]
        rw [cutS_nth hi]
        exact Cs.one (hq i hi)
theorem t32 (z : Nat) (hO : Own base own) (hbm : base ≤ m.length) (h : Net own k m p d s) (no : Int) :
    ∃ own' m' v, rt (z + 12) base 32 [pt p 0, vi no] m = some (.ret (.tuple #[v, vi (snapE s no)]), m') ∧ Own base own' ∧ Step (· = 45) own m own' m' ∧ (snapE s no = 0 → Nums own' 45 m' v (cutS s (no.toNat - 1)) ∧ ∃ r, v = sl r s.n) := by
  have n5 := h.n5
  have hk0 := h.k0
  rw [rt_imp (f := 32) (rf := rf32) (by kernel_rfl) (by kernel_rfl) (by kernel_rfl)]
  show ∃ own' m' v, r32 (rt (z + 11)) (z + 11) base (pt p 0) (vi no) m = _ ∧ _
  unfold r32
  rw [k1_fun, t80 (base := base) (z + 8) (by omega) h no, kcs, ext0, k1s, ext1, k1s, neqE, k1s]
  by_cases h0 : snapE s no = 0
  · have hsi : no.toNat - 1 < s.ns := by
      unfold snapE at h0
      split at h0
      · rename_i e; exact (findE_0 e).2
      · omega
    let m1 : M := m ++ [rowz 1 true (List.replicate s.n (vi 0))]
    let own1 := upd own m.length 45
    have s1 : ∀ T : Nat → Prop, Step T own m own1 m1 := fun T => Step.push T _ _ _ _
    have hm1 : m1.length = m.length + 1 := by simp [m1]
    have hO1 : Own base own1 := hO.upd hbm _
    have h1 : Net own1 k m1 p d s := h.step (s1 fun _ => False) (fun _ h => h.elim)
    have hd1 : Hd m1 m.length 1 true s.n := by
      have := Hd_new m 1 true (List.replicate s.n (vi 0))
      rw [List.length_replicate] at this
      exact this
    obtain ⟨m2, g1, s2, hN⟩ := loop82 (rt (z + 10)) (z + 10) base (fun y3_12 m => some (.ret y3_12, m)) hsi hbm (z + 10) 0 m1 (by omega) (by omega) (by omega) h1 hd1 (upd_self _ _ _) (fun q hq => by omega)
    refine ⟨own1, m2, sl m.length s.n, ?_, hO1, (s1 _).trans s2, fun _ => ⟨hN, m.length, rfl⟩⟩
    rw [decide_eq_true h0, Bool.not_true, kbf, if_pos h0, rt_imp (f := 82) (rf := rf82) (by kernel_rfl) (by kernel_rfl) (by kernel_rfl), h0]
    show kc (r82 (rt (z + 10)) (z + 10) base (sl (d.rr (no.toNat - 1)) s.n) m) _ _ = _
    unfold r82
    rw [vcall_fun, fVal_fun, glen i125, k2s, mk22 m s.n (by omega), k2s, rep1, glen i125, k2s, i0]
    refine Eq.trans (congrArg (fun x => kc x _ _) g1) ?_
    rw [kcs]
    rfl
  · refine ⟨own, m, nilS, ?_, hO, Step.refl _ _ _, fun h => absurd h h0⟩
    rw [decide_eq_false h0, Bool.not_false, kbt]
end
end Go.AM
namespace Go.AM
open Go Go.Proofs
theorem conF_yes {N : Nat} {l : List Evt} {c : List Int} (h : errF N l = 0) (hc : c.length = N) : conF N l c = (holdF N l c, 0) := by
  unfold conF
  rw [if_neg (by omega), if_neg (by omega), hc]
end Go.AM
namespace Go.AM
open Go Go.Proofs
open Go.ChangeShapes Go.WideShapes
section
variable {H : Type} {enc : TypeId × Value → H} {W : World} {b0 : Nat} {v : Value} {d : DataW H} {p : List MemPlace} {ρ : Map} {m : M} (hR : Rel ρ m W) (hro : ∀ row ∈ m, row.ro = true)
include hR hro
set_option maxRecDepth 100000
theorem openActs (hval : Value.okWide Try.prog W .any b0 23 v) (hd : DataW.Trod enc Try.prog W 0 (fun _ => true) true 23 v d p) :
    ∃ (ρ' : Map) (ext : M) (xv : Value) (l : List ActD), ρ.le ρ' ∧ Rel ρ' (m ++ ext) W ∧ (∀ row ∈ (m ++ ext : M), row.ro = true) ∧ VRel ρ' xv v ∧ Acs (fun _ => 0) (m ++ ext) xv l := by
  obtain ⟨fuel, hf⟩ := hd
  obtain ⟨a, len, cap, rfl⟩ := okWide_slice un23 hval
  obtain ⟨ρ', ext, xv, l, h1, h2, h3, h4, h5⟩ := openFlat un23 ce36 (by omega) (fun c : ActD => actC c) (fun _ => rfl) (fun a v hv ρ => by
    simp only [actC, List.mem_cons, List.not_mem_nil, or_false] at hv
    rcases hv with rfl | rfl | rfl | rfl <;> exact .int _ _) (fun n cs x hx => by
    obtain ⟨a, e, _⟩ := act_of_trod hx
    exact ⟨a, e⟩) hR hro hf
  exact ⟨ρ', ext, xv, l, h1, h2, h3, h4, openFlat_lst (f := fun c : ActD => actC c) (z := 4) (fun _ => rfl) h5⟩
end
end Go.AM
namespace Go.AM
open Go Go.Proofs
section
variable {own : Nat → Nat} {l : List Evt} {v : Value}
end
section
variable {own : Nat → Nat} {m : M} {base : Nat}
theorem doneS_all {s : Nt} {i : Nat} (n5 : s.n ≤ 5) (h : doneS s i = true) : ∀ t, t < s.n → (s.sh i t).made = true ∧ ∀ f, f < s.n → (s.sh i t).opn f = false := fun t ht => by
  unfold doneS at h
  have := List.all_eq_true.1 h t (List.mem_range.2 ht)
  unfold doneR at this
  simp only [Bool.and_eq_true, Bool.not_eq_true'] at this
  refine ⟨this.1, fun f hf => ?_⟩
  match f with
  | 0 => exact this.2.1
  | 1 => exact this.2.2.1
  | 2 => exact this.2.2.2.1
  | 3 => exact this.2.2.2.2.1
  | 4 => exact this.2.2.2.2.2
  | f + 5 => omega
theorem snapE_0 {s : Nt} {no : Int} (h : snapE s no = 0) : 1 ≤ no ∧ no.toNat - 1 < s.ns ∧ doneS s (no.toNat - 1) = true := by
  unfold snapE at h
  split at h
  · rename_i e
    split at h
    · rename_i hd
      exact ⟨(findE_0 e).1, (findE_0 e).2, hd⟩
    · omega
  · omega
end
end Go.AM
namespace Go.AM
open Go Go.Proofs
theorem EvB.pcs_ {m : M} {p : Nat} {e : Evt} {u : Value} (h : EvB m p e u) (K : Value → Res2) : (k1n (mfieldAddr E.P 72 (pt p 0) 3) fun a => k1n (xload E.P m 3 a) K) = K (vi e.pcs) := by
  rw [gfd f72_3, k1s, gld1 a3, Cs.at h 3 rfl, k1s]
section
variable {own : Nat → Nat} {k : Nat} {p : Nat} {base : Nat}
/-- A replay's net. -/
def repN (w : Nat → Bool) (l : List Evt) (l0 : List Int) (t : Nat) : Nt := (repF w l (initS l0) t).2
theorem repN_inv {w : Nat → Bool} {l : List Evt} {l0 : List Int} (h : newOk l0 = true) : ∀ t, NInv (repN w l l0 t)
  | 0 => NInv.init h
  | t + 1 => by
    have ih := repN_inv (w := w) (l := l) h t
    unfold repN repF
    cases w t with
    | false => exact ih
    | true =>
      show NInv (apE (repN w l l0 t) (evt l t))
      unfold apE
      split
      · exact ih.workN _ _
      · split
        · exact ih.sendN _ _ _
        · exact ih.rcvS _ _
theorem loop46 (z : Nat) (hz : 10 ≤ z) (kp : Value → M → Res2) (kr : Value → Value → M → Res2) (kx : Value → M → Res2) {x0 v cv : Value} {l : List Evt} {l0 cut : List Int} {N ra tc : Nat} (k0 : 1000 ≤ k) (htc : tc ≠ 40 ∧ tc ≠ 7 ∧ tc < 1000) (ha : base ≤ ra) (hN : l0.length = N) (hcN : cut.length = N) (hl : l.length ≤ 1000) (hnew : newOk l0 = true)
    (hst : ∀ i, i < l.length → (evt l i).st = (sN l i : Int) ∧ sN l i < N ∧ 1 ≤ (evt l i).what ∧ (evt l i).what ≤ 3) (hok : (repF (fun j => decide ((oN l j : Int) < nth cut (sN l j))) l (initS l0) l.length).1 = true) :
    ∀ (n i : Nat) (own : Nat → Nat) (m : M) (d : NP), i ≤ l.length → l.length + 1 ≤ n + i → Own base own → base ≤ m.length → Evs own 0 m v l → Nums own 0 m x0 l0 → Nums own tc m cv cut → NumR own m ra (cutP l N i) → Net own k m p d (repN (fun j => decide ((oN l j : Int) < nth cut (sN l j))) l l0 i) →
      ∃ own' m' d', r46_L0 (rt (z + 5)) (z + 5) base kp kr kx n x0 v cv (pt p 0) (sl ra N) (vi i) m = kx (pt p 0) m' ∧ Own base own' ∧ Step (fun t => t = 40 ∨ netT k t) own m own' m' ∧ Net own' k m' p d' (repN (fun j => decide ((oN l j : Int) < nth cut (sN l j))) l l0 l.length)
  | 0, i, own, m, d, hi, hn, hO, hbm, hv, h0, hc, hA, h => by omega
  | n + 1, i, own, m, d, hi, hn, hO, hbm, hv, h0, hc, hA, h => by
    rw [r46_L0_s, hv.len, k2s, lssN, k1s]
    by_cases hlt : i < l.length
    · obtain ⟨e1, e2, e3, e4⟩ := hst i hlt
      obtain ⟨u, hu, hget⟩ := hv.get hlt
      obtain ⟨ua, uc, rfl⟩ := hu.isSlice
      generalize hw : (fun j => decide ((oN l j : Int) < nth cut (sN l j))) = W at *
      -- the box
      let m1 : M := m ++ [cellR (evC (evt l i) (.slice ua (evt l i).clk.length uc))]
      have s1 : ∀ T : Nat → Prop, Step T own m own m1 := fun T => Step.push0 T own m [_]
      have B : EvB m1 m.length (evt l i) (.slice ua (evt l i).clk.length uc) := EvB.new m _ _
      have hbox : xstore E.P base (m ++ [cellR [vi 0, vi 0, vi 0, vi 0, nilS]]) 72 (pt m.length 0) (evV (evt l i) (.slice ua (evt l i).clk.length uc)) = some m1 := by
        have := gstk (t := 72) (k := 5) z72 (l := evC (evt l i) (.slice ua (evt l i).clk.length uc)) rfl rfl (off := 0) hbm (Hd_new m 0 true [vi 0, vi 0, vi 0, vi 0, nilS]) (by simp)
        rw [mwr_new m 0 true [vi 0, vi 0, vi 0, vi 0, nilS] (evC (evt l i) (.slice ua (evt l i).clk.length uc)) rfl] at this
        exact this
      have hA1 : NumR own m1 ra (cutP l N i) := ⟨hA.hd.congr (push_get hA.hd.lt), hA.tg, fun q hq => by rw [mcell_congr (push_get hA.hd.lt)]; exact hA.cell q hq⟩
      have hA1n := hA1.nums (N := N) (cutP_len _ _ _)
      have hcp : nth (cutP l N i) (sN l i) = oN l i := by
        rw [cutP_nth l N e2]
        unfold oN
        rw [e1]
      have hset := hA1.set (i := sN l i) (by rw [cutP_len]; exact e2) (oN l i + 1)
      have hP : (cutP l N i).set (sN l i) ((oN l i : Int) + 1) = cutP l N (i + 1) := by
        refine nth_ext (by rw [List.length_set, cutP_len, cutP_len]) fun q hq => ?_
        rw [List.length_set, cutP_len] at hq
        rw [nth_set (by rw [cutP_len]; exact e2), cutP_nth l N hq, cutP_nth l N hq]
        by_cases e : q = sN l i
        · subst e
          rw [if_pos rfl, ordN_succ e1]
          unfold oN
          rw [e1]
          omega
        · rw [if_neg e]
          rw [ordN, if_neg (by omega)]
      rw [hP] at hset
      let m2 : M := mwr m1 ra (sN l i) [vi ((oN l i : Int) + 1)]
      have s2 : Step (· = 40) own m1 own m2 := Step.wr (T := (· = 40)) hA1.tg _ _
      have hst2 : xstore E.P base m1 3 (pt ra (sN l i)) (vi ((oN l i : Int) + 1)) = some m2 := gstI z3 ha hA1.hd (by rw [cutP_len]; exact e2) _
      have hole := ordN_le l (evt l i).st i
      have hwr : wr ((oN l i : Int) + ((1 : Nat) : Int)) = (oN l i : Int) + 1 := wr_id (by omega) (by unfold oN; omega)
      have B2 : EvB m2 m.length (evt l i) (.slice ua (evt l i).clk.length uc) := Cs.congr B (mwr_ne (by have := hA.hd.lt; omega))
      have hA2n := hset.nums (N := N) (cutP_len _ _ _)
      have hcp2 : nth (cutP l N (i + 1)) (sN l i) = (oN l i : Int) + 1 := by
        rw [← hP, nth_set (by rw [cutP_len]; exact e2), if_pos rfl]
      have s12 : Step (· = 40) own m own m2 := (s1 _).trans s2
      have hv2 := hv.step s12 (by omega) (by omega)
      have h02 : Nums own 0 m2 x0 l0 := Lst.step h0 s12 (by omega)
      have hc2 : Nums own tc m2 cv cut := Lst.step hc s12 (by omega)
      have hbm2 : base ≤ m2.length := Nat.le_trans hbm s12.len
      have h2 := h.step s12 (fun t ht => by omega)
      -- going on
      have go : ∀ (own3 : Nat → Nat) (m3 : M) (d3 : NP), Own base own3 → Step (netT k) own m2 own3 m3 → Net own3 k m3 p d3 (repN W l l0 (i + 1)) → ∃ own' m' d', (k1n (mbin E .add 3 (vi i) (.int .i64 1)) fun v36_37 => (r46_L0 (rt (z + 5)) (z + 5) base kp kr kx n x0 v cv (pt p 0) (sl ra N) v36_37 m3)) = kx (pt p 0) m' ∧ Own base own' ∧ Step (fun t => t = 40 ∨ netT k t) own m own' m' ∧ Net own' k m' p d' (repN W l l0 l.length) := fun own3 m3 d3 hO3 s3 h3 => by
        have n40 : ¬ netT k 40 := by unfold netT; omega
        have n0 : ¬ netT k 0 := by unfold netT; omega
        have ntc : ¬ netT k tc := by unfold netT; omega
        obtain ⟨own', m', d', q1, q2, q3, q4⟩ := loop46 z hz kp kr kx k0 htc ha hN hcN hl hnew hst (by rw [hw]; exact hok) n (i + 1) own3 m3 d3 (by omega) (by omega) hO3 (Nat.le_trans hbm2 s3.len) (hv2.step s3 n0 n0) (Lst.step h02 s3 n0) (Lst.step hc2 s3 ntc)
          ⟨s3.hd hset.hd (by rw [hset.tg]; exact n40), (s3.tg ra hset.hd.lt).trans hset.tg, fun q hq => s3.cell (hset.cell q hq) (by rw [hset.tg]; exact n40)⟩ (by rw [hw]; exact h3)
        rw [hw] at q4
        refine ⟨own', m', d', ?_, q2, (s12.mono fun t ht => .inl ht).trans ((s3.mono fun t ht => .inr ht).trans q3), q4⟩
        rw [add1 3 _ (by omega), k1s]
        exact q1
      have hWi : W i = decide ((oN l i : Int) < nth cut (sN l i)) := by rw [← hw]
      have hrk := rep_ok hok hlt
      rw [decide_eq_true hlt, kbt, hget, al72, k2s, hbox, kss, B.st, show (.int .i64 0 : Value) = vi 0 from rfl, lssI, k1s, decide_eq_false (by omega), kbf, B.st, (show vcalln E.P base m1 .len [22] [x0] = some (vi l0.length, m1) from h0.len i22 base m1), k2s, geqI, k1s, decide_eq_false (by omega), kbf, B.st, e1, Nums.get hA1n (by rw [cutP_len]; exact e2), hcp, i1, addI, k1s, hwr, gix s22 ra 0 N N _ e2, k1s, Nat.zero_add, Nat.mul_one, hst2, kss, B2.st, e1, Nums.get hA2n (by rw [cutP_len]; exact e2), hcp2, B2.st, e1, Nums.get hc2 (by omega), gtrI, k1s]
      have hsucc : repF W l (initS l0) (i + 1) = if W i then ((repF W l (initS l0) i).1 && okE (repF W l (initS l0) i).2 (evt l i), apE (repF W l (initS l0) i).2 (evt l i)) else repF W l (initS l0) i := rfl
      by_cases hin : (oN l i : Int) < nth cut (sN l i)
      · have hWt : W i = true := by rw [hWi, decide_eq_true hin]
        have hoke := hrk.2 hWt
        rw [hWt, if_pos rfl] at hsucc
        have hap : repN W l l0 (i + 1) = apE (repN W l l0 i) (evt l i) := by
          show (repF W l (initS l0) (i + 1)).2 = _
          rw [hsucc]
          rfl
        have hI := repN_inv (w := W) (l := l) hnew i
        rw [decide_eq_false (by omega), kbf, B2.what, eqlI, k1s]
        unfold okE at hoke
        unfold apE at hap
        by_cases w1 : (evt l i).what = 1
        · rw [if_pos w1, decide_eq_true_eq] at hoke
          rw [if_pos w1] at hap
          obtain ⟨own3, m3, d3, g1, g2, g3, g4⟩ := t24 (base := base) (z + 1) hO h2 hI.bd (evt l i).st (evt l i).pcs
          obtain ⟨own', m', d', q⟩ := go own3 m3 d3 g4 g3 (by rw [hap]; exact g2)
          refine ⟨own', m', d', ?_, q.2⟩
          have hE0 : workE (repN W l l0 i) (evt l i).st (evt l i).pcs = 0 := hoke
          rw [decide_eq_true (show (evt l i).what = ((1 : Nat) : Int) from w1), kbt, B2.st, B2.pcs_, g1, kcs, hE0, neqI, k1s, decide_eq_true rfl, Bool.not_true, kbf]
          exact q.1
        · rw [if_neg w1] at hoke hap
          rw [decide_eq_false (show ¬ (evt l i).what = ((1 : Nat) : Int) from w1), kbf, show (.int .i64 2 : Value) = vi 2 from rfl, eqlI, k1s]
          by_cases w2 : (evt l i).what = 2
          · rw [if_pos w2, decide_eq_true_eq] at hoke
            rw [if_pos w2] at hap
            obtain ⟨own3, m3, d3, g1, g2, g3, g4⟩ := t23 (base := base) (z + 1) hO h2 hI.bd (fun a b => by have := hI.lim.cl a b; omega) (evt l i).st (evt l i).other (evt l i).pcs
            obtain ⟨own', m', d', q⟩ := go own3 m3 d3 g4 g3 (by rw [hap]; exact g2)
            refine ⟨own', m', d', ?_, q.2⟩
            have hE0 : sendE (repN W l l0 i) (evt l i).st (evt l i).other (evt l i).pcs = 0 := hoke
            rw [decide_eq_true w2, kbt, B2.st, B2.other, B2.pcs_, g1, kcs, hE0, neqI, k1s, decide_eq_true rfl, Bool.not_true, kbf]
            exact q.1
          · rw [if_neg w2, decide_eq_true_eq] at hoke
            rw [if_neg w2] at hap
            obtain ⟨own3, m3, d3, g1, g2, g3, g4⟩ := t25 (base := base) (z + 1) (by omega) hO h2 hI.bd hI.lim (evt l i).other (evt l i).st
            obtain ⟨own', m', d', q⟩ := go own3 m3 d3 g4 g3 (by rw [hap]; exact g2)
            refine ⟨own', m', d', ?_, q.2⟩
            have hE0 : rcvE (repN W l l0 i) (evt l i).other (evt l i).st = 0 := hoke
            rw [decide_eq_false w2, kbf, B2.other, B2.st, g1, kcs, hE0, neqI, k1s, decide_eq_true rfl, Bool.not_true, kbf]
            exact q.1
      · have hWf : W i = false := by rw [hWi, decide_eq_false hin]
        rw [hWf, if_neg (by simp)] at hsucc
        have hap : repN W l l0 (i + 1) = repN W l l0 i := by
          show (repF W l (initS l0) (i + 1)).2 = _
          rw [hsucc]
          rfl
        rw [decide_eq_true (by omega), kbt]
        exact go own m2 d hO (Step.refl _ _ _) (by rw [hap]; exact h2)
    · obtain rfl : i = l.length := by omega
      refine ⟨own, m, d, ?_, hO, Step.refl _ _ _, h⟩
      rw [decide_eq_false hlt, kbf]
end
end Go.AM
namespace Go.AM
open Go Go.Proofs
theorem mwr_pre {m y : M} {r off : Nat} {vs : List Value} (h : m.length ≤ r) : ∃ y', mwr (m ++ y) r off vs = m ++ y' ∧ y'.length = y.length := by
  unfold mwr
  split
  · split
    · rw [List.set_append_right _ _ h]
      exact ⟨_, rfl, by simp⟩
    · exact ⟨y, rfl, rfl⟩
  · exact ⟨y, rfl, rfl⟩
theorem kv130 (call : CallF) (base : Nat) (q : Int) (c : Nat → Int) (m : M) : kv call base (imeth 0 (msV (.par q c))) [] m = call base 130 [parV q c] m := by kernel_rfl
theorem t130 (n base : Nat) (q : Int) (c : Nat → Int) (m : M) : rt (n + 1) base 130 [parV q c] m = some (.ret (vi q), m) := by
  refine rt_pure (f := 130) (rf := rf130) (by kernel_rfl) (by kernel_rfl) (by kernel_rfl) n base _ m (m ++ [cellR (stC q c)]) _ ?_ rfl
  show r130 (rt n) n m.length (parV q c) m = _
  unfold r130
  have e : xbox m (parV q c) = some (pt m.length 0, m ++ [cellR (stC q c)]) := by
    have e : xbox m (parV q c) = xlen m fun k => xpush m (cellR (stC q c)) fun m' => some (pt k 0, m') := by kernel_rfl
    rw [e, xlen_eq, fNat_eq, xpush_eq, fList_eq]
  rw [k1_fun, fVal_fun, e, k2s, gfd f117_0, k1s, gld1 a3, (Cs_new m 0 true (stC q c)).at 0 rfl, k1s]
theorem r17_L0_s (call : CallF) (fuel base : Nat) (kr : Value → M → Res2) (kx0 : M → Res2) (n : Nat) (x0 x1 x5 : Value) (m : M) : r17_L0 call fuel base kr kx0 (n + 1) x0 x1 x5 m =
    (k2 (vcalln E.P base m .len [22] [x0]) fun v13_4 m => (k1n (mbin E .lss 3 x5 v13_4) fun v14_5 => (kb v14_5 (k1n (mindexAddr E.P 22 x0 x5) fun v19_6 => (k1n (xload E.P m 3 v19_6) fun v20_7 => (k1n (mindexAddr E.P 22 x1 x5) fun v23_8 => (k1n (xload E.P m 3 v23_8) fun v24_9 => (k1n (mbin E .neq 3 v20_7 v24_9) fun v25_10 => (kb v25_10 (kr (.bool false) m) (k1n (mbin E .add 3 x5 (.int .i64 1)) fun v16_11 => (r17_L0 call fuel base kr kx0 n x0 x1 v16_11 m)))))))) (kx0 m)))) := by
  unfold r17_L0
  rw [k1_fun, vcall_fun]
end Go.AM
namespace Go.AM
open Go Go.Proofs
section
variable {own : Nat → Nat} {m : M} {base : Nat}
theorem loop17 (call : CallF) (fuel base : Nat) (kr : Value → M → Res2) (kx : M → Res2) {tx ty : Nat} {x y : Value} {l : List Int} (hx : Nums own tx m x l) (hy : Nums own ty m y l) (hl : l.length ≤ 1000) :
    ∀ (n i : Nat), i ≤ l.length → l.length + 1 ≤ n + i → r17_L0 call fuel base kr kx n x y (vi i) m = kx m
  | 0, i, hi, hn => by omega
  | n + 1, i, hi, hn => by
    rw [r17_L0_s, hx.len i22, k2s, lssN, k1s]
    by_cases h : i < l.length
    · rw [decide_eq_true h, kbt, hx.get h, hy.get h, neqI, k1s, decide_eq_true rfl, Bool.not_true, kbf, add1 3 _ (by omega), k1s]
      exact loop17 call fuel base kr kx hx hy hl n (i + 1) (by omega) (by omega)
    · rw [decide_eq_false h, kbf]
theorem t17 (k base : Nat) (hk : 1001 ≤ k) {tx ty : Nat} {x y : Value} {l : List Int} (hx : Nums own tx m x l) (hy : Nums own ty m y l) (hl : l.length ≤ 1000) : rt (k + 1) base 17 [x, y] m = some (.ret (.bool true), m) := by
  refine rt_pure (f := 17) (rf := rf17) (by kernel_rfl) (by kernel_rfl) (by kernel_rfl) k base _ m m _ ?_ rfl
  show r17 (rt k) k m.length x y m = _
  unfold r17
  rw [k1_fun, vcall_fun, fVal_fun, hx.len i22, k2s, hy.len i22, k2s, neqI, k1s, decide_eq_true rfl, Bool.not_true, kbf, i0]
  exact loop17 (rt k) k m.length _ _ hx hy hl k 0 (by omega) (by omega)
variable {k : Nat} {p : Nat} {d : NP} {s : Nt}
def pcsL (s : Nt) : List Int := (List.range s.n).map s.pcs
theorem pcsL_len (s : Nt) : (pcsL s).length = s.n := by simp [pcsL]
theorem pcsL_nth {s : Nt} {i : Nat} (h : i < s.n) : nth (pcsL s) i = s.pcs i := by
  unfold nth pcsL
  rw [List.getElem?_map, List.getElem?_range h]
  rfl
theorem loop33 (call : CallF) (fuel : Nat) (kx : Value → M → Res2) (own1 : Nat → Nat) (tg : own1 m.length = 46) :
    ∀ (w i : Nat) (y : M), i ≤ s.n → s.n + 1 ≤ w + i → Net own1 k (m ++ y) p d s → Hd (m ++ y) m.length 1 true s.n → (∀ q, q < i → mcell (m ++ y) m.length q = some (vi (s.pcs q))) →
      ∃ y', r33_L0 call fuel m.length kx w (sl m.length s.n) (sl d.rs s.n) (vi s.n) (vi i) (m ++ y) = kx (sl m.length s.n) (m ++ y') ∧ Nums own1 46 (m ++ y') (sl m.length s.n) (pcsL s)
  | 0, i, y, hi, hw, h, hd, hq => by omega
  | w + 1, i, y, hi, hw, h, hd, hq => by
    have n5 := h.n5
    have k0 := h.k0
    rw [r33_L0_s, lssN, k1s]
    by_cases hlt : i < s.n
    · have hcs := h.S.cs i hlt
      let m1 : M := m ++ y ++ [cellR (stC (s.pcs i) (s.clk i))]
      have s1 : Step (· = 46) own1 (m ++ y) own1 m1 := Step.push0 _ own1 (m ++ y) [_]
      have hst : xstore E.P m.length (m ++ y ++ [cellR (stC 0 fun _ => 0)]) 114 (pt (m ++ y).length 0) (parV (s.pcs i) (s.clk i)) = some m1 := by
        have := gstk (t := 114) (k := 6) z114 (l := stC (s.pcs i) (s.clk i)) rfl rfl (off := 0) (base := m.length) (p := (m ++ y).length) (by simp) (Hd_new (m ++ y) 0 true (stC 0 fun _ => 0)) (by simp [stC])
        rw [mwr_new (m ++ y) 0 true (stC 0 fun _ => 0) (stC (s.pcs i) (s.clk i)) rfl] at this
        exact this
      have hd1 : Hd m1 m.length 1 true s.n := hd.congr (push_get hd.lt)
      have s2 : Step (· = 46) own1 m1 own1 (mwr m1 m.length i [vi (s.pcs i)]) := Step.wr (T := (· = 46)) tg _ _
      have hst2 : xstore E.P m.length m1 3 (pt m.length i) (vi (s.pcs i)) = some (mwr m1 m.length i [vi (s.pcs i)]) := gstI z3 (Nat.le_refl _) hd1 hlt _
      have he : m1 = m ++ (y ++ [cellR (stC (s.pcs i) (s.clk i))]) := by simp [m1]
      obtain ⟨y', hy', _⟩ := mwr_pre (m := m) (y := y ++ [cellR (stC (s.pcs i) (s.clk i))]) (r := m.length) (off := i) (vs := [vi (s.pcs i)]) (Nat.le_refl _)
      rw [← he] at hy'
      have h2 := h.step (s1.trans s2) (fun t ht => by omega)
      have hd2 : Hd (mwr m1 m.length i [vi (s.pcs i)]) m.length 1 true s.n := mwr_hd hd1
      have hq2 : ∀ q, q < i + 1 → mcell (mwr m1 m.length i [vi (s.pcs i)]) m.length q = some (vi (s.pcs q)) := fun q hq' => by
        by_cases e : q = i
        · subst e
          exact (mwr_in (vs := [vi (s.pcs q)]) hd1 (by simp; omega)).cell
        · rw [mwr_out (by simp; omega), mcell_congr (push_get hd.lt)]
          exact hq q (by omega)
      rw [hy'] at h2 hd2 hq2 hst2
      obtain ⟨y'', g1, g2⟩ := loop33 call fuel kx own1 tg w (i + 1) y' (by omega) (by omega) h2 hd2 hq2
      refine ⟨y'', ?_, g2⟩
      rw [decide_eq_true hlt, kbt, gix s53 d.rs 0 s.n s.n i hlt, k1s, Nat.zero_add, mread_agg6 hcs, k1s, al114, k2s, hst, kss, gfd f114_0, k1s, gld1 a3, (Cs_new (m ++ y) 0 true (stC (s.pcs i) (s.clk i))).at 0 rfl, k1s, gix s22 m.length 0 s.n s.n i hlt, k1s, show 0 + i * 1 = i by omega, hst2, kss, add1 3 _ (by omega), k1s]
      exact g1
    · obtain rfl : i = s.n := by omega
      refine ⟨y, ?_, ?_⟩
      · rw [decide_eq_false hlt, kbf]
      · refine ⟨some ⟨m.length, 0, none⟩, s.n, by rw [pcsL_len], fun _ => ⟨m.length, 0, rfl, hd.lt, tg, fun i hi => ?_⟩⟩
        rw [pcsL_len] at hi
        rw [Nat.zero_add, Nat.mul_one]
        show Cs (m ++ y) m.length i [vi (nth (pcsL s) i)]
        rw [pcsL_nth hi]
        exact Cs.one (hq i hi)
theorem t33 (z : Nat) (hz : 10 ≤ z) (h : Net own k m p d s) : ∃ y v, rt (z + 2) m.length 33 [pt p 0] m = some (.ret v, m ++ y) ∧ Nums (upd own m.length 46) 46 (m ++ y) v (pcsL s) ∧ 0 < y.length := by
  have n5 := h.n5
  rw [rt_imp (f := 33) (rf := rf33) (by kernel_rfl) (by kernel_rfl) (by kernel_rfl)]
  show ∃ y v, r33 (rt (z + 1)) (z + 1) m.length (pt p 0) m = _ ∧ _
  let y0 : M := [rowz 1 true (List.replicate s.n (vi 0))]
  have h1 : Net (upd own m.length 46) k (m ++ y0) p d s := h.step (Step.push (fun _ => False) own m _ 46) (fun _ h => h.elim)
  have hd1 : Hd (m ++ y0) m.length 1 true s.n := by
    have := Hd_new m 1 true (List.replicate s.n (vi 0))
    rw [List.length_replicate] at this
    exact this
  obtain ⟨y', g1, g2⟩ := loop33 (m := m) (rt (z + 1)) (z + 1) (fun y3_19 m => some (.ret y3_19, m)) (upd own m.length 46) (upd_self _ _ _) (z + 1) 0 y0 (by omega) (by omega) h1 hd1 (fun q hq => by omega)
  refine ⟨y', sl m.length s.n, ?_, g2, ?_⟩
  · unfold r33
    rw [k1_fun, vcall_fun, fVal_fun, t68 z _ h.H h.n2, kcs, kbf, mnil_pt, k1s, h.H.sts, glen i53, k2s, mk22 m s.n (by omega), k2s, rep1, k1s, h1.H.sts, glen i53, k2s, i0]
    exact g1
  · obtain ⟨a, c, e, hh⟩ := g2
    obtain ⟨r, off, e2, hlt, _, _⟩ := hh (by rw [pcsL_len]; have := h.n2; omega)
    have : r = m.length := by
      rw [e2] at e
      have := congrArg (fun v => match v with
        | Value.slice (some a) _ _ => a.block
        | _ => 0) e
      simpa using this.symm
    subst this
    simp at hlt
    exact List.length_pos_iff.2 (fun e => by rw [e] at hlt; simp at hlt)
theorem loop20 (z : Nat) (kp : Value → M → Res2) (kx : Value → M → Res2) {t : Nat} {v : Value} {L : List Ms} (hpar : ∀ no, Ms.mark no ∉ L) (hl : L.length ≤ 1000) (ht : t ≠ 47) :
    ∀ (w i : Nat) (own : Nat → Nat) (m : M) (x : Value), i ≤ L.length → L.length + 1 ≤ w + i → Own base own → base ≤ m.length → Lst own t 1 m v L.length (msL L) → Vec own 47 1 m x i (fun j => [vi (nth (parP L) j)]) →
      ∃ own' m' x', r20_L0 (rt (z + 1)) (z + 1) base kp kx w x v (vi L.length) (vi i) m = kx x' m' ∧ Own base own' ∧ Step (· = 47) own m own' m' ∧ Vec own' 47 1 m' x' L.length (fun j => [vi (nth (parP L) j)])
  | 0, i, own, m, x, hi, hw, hO, hbm, hv, hx => by omega
  | w + 1, i, own, m, x, hi, hw, hO, hbm, hv, hx => by
    rw [r20_L0_s, lssN, k1s]
    by_cases h : i < L.length
    · obtain ⟨pp, off, e, _, _, hc⟩ := hv.ix s103 h
      have hd : msAt L i = L[i] := by unfold msAt; simp [h]
      have hc1 := hc.cell
      rw [hd] at hc1
      have hpn : ∀ (L : List Ms), (∀ no, Ms.mark no ∉ L) → ∀ (i : Nat) (h : i < L.length), ∃ q c, L[i] = .par q c ∧ nth (parP L) i = q := by
        intro L
        induction L with
        | nil => intro _ i h; simp at h
        | cons w L ih =>
          intro hp i h
          cases w with
          | mark no => exact absurd List.mem_cons_self (hp no)
          | par q c =>
            cases i with
            | zero => exact ⟨q, c, rfl, rfl⟩
            | succ i =>
              obtain ⟨q', c', h1, h2⟩ := ih (fun no hh => hp no (List.mem_cons_of_mem _ hh)) i (by simpa using h)
              refine ⟨q', c', by simpa using h1, ?_⟩
              rw [← h2]
              show nth (q :: parP L) (i + 1) = nth (parP L) i
              unfold nth
              rw [List.getElem?_cons_succ]
      obtain ⟨q, c, hL, hq⟩ := hpn L hpar i h
      rw [hL] at hc1
      let m1 : M := m ++ [rowz 1 true [vi q]]
      let own1 := upd own m.length 0
      have s1 : ∀ T : Nat → Prop, Step T own m own1 m1 := fun T => Step.push T _ _ _ _
      have hO1 : Own base own1 := hO.upd hbm 0
      have hm1 : m1.length = m.length + 1 := by simp [m1]
      obtain ⟨m2, p1, p2, s2, hm2⟩ := (hx.step (s1 fun _ => False) (fun h => h)).add hO1 (by omega) (by omega) (src1 (m := m) (z := 1) (c := [vi q]) rfl (by omega)) rfl rfl (by omega)
      have s12 : Step (· = 47) own m (upd own1 m1.length 47) m2 := (s1 _).trans s2
      have hO2 : Own base (upd own1 m1.length 47) := hO1.upd (by omega) 47
      obtain ⟨own', m', x', g1, g2, g3, g4⟩ := loop20 z kp kx hpar hl ht w (i + 1) _ m2 _ (by omega) (by omega) hO2 (by omega) (Lst.step hv s12 ht) (p2 (fun j => [vi (nth (parP L) j)]) (fun _ _ => rfl) (by rw [hq]))
      refine ⟨own', m', x', ?_, g2, s12.trans g3, g4⟩
      rw [decide_eq_true h, kbt, e, k1s, gld1 a106, hc1, k1s, kv130, t130, kcs, gb22, k2s, vapp p22, p1, k2s, add1 3 _ (by omega), k1s]
      exact g1
    · obtain rfl : i = L.length := by omega
      refine ⟨own, m, x, ?_, hO, Step.refl _ _ _, hx⟩
      rw [decide_eq_false h, kbf]
theorem parP_len : ∀ (L : List Ms), (∀ no, Ms.mark no ∉ L) → (parP L).length = L.length
  | [], _ => rfl
  | .mark no :: L, h => absurd List.mem_cons_self (h no)
  | .par q c :: L, h => by
    show (parP L).length + 1 = L.length + 1
    rw [parP_len L (fun no hh => h no (List.mem_cons_of_mem _ hh))]
/-- What waits, where there are only parcels. -/
theorem t20 (z : Nat) (hz : 1001 ≤ z) (hO : Own base own) (hbm : base ≤ m.length) (h : Net own k m p d s) {a b : Nat} (ha : a < s.n) (hb : b < s.n) (hcl : ∀ a b, (s.ch a b).length ≤ 1000) (hpar : ∀ a b no, Ms.mark no ∉ s.ch a b) (hdi : ∀ a, s.ch a a = []) :
    ∃ own' m' v e, rt (z + 2) base 20 [pt p 0, vi a, vi b] m = some (.ret (.tuple #[v, e]), m') ∧ Own base own' ∧ Step (· = 47) own m own' m' ∧ Nums own' 47 m' v (parP (s.ch a b)) := by
  have n5 := h.n5
  have k0 := h.k0
  rw [rt_imp (f := 20) (rf := rf20) (by kernel_rfl) (by kernel_rfl) (by kernel_rfl)]
  show ∃ own' m' v e, r20 (rt (z + 1)) (z + 1) base (pt p 0) (vi a) (vi b) m = _ ∧ _
  unfold r20
  obtain ⟨z', rfl⟩ : ∃ z', z = z' + 1 := ⟨z - 1, by omega⟩
  rw [k1_fun, vcall_fun, t59 z' _ h.H h.n2, kcs, neqE, k1s]
  by_cases hab : a = b
  · subst hab
    have hc : chkF s.n (a : Nat) (a : Nat) = 2 := by
      unfold chkF
      rw [if_neg (by omega)]
    refine ⟨own, m, nilS, vi 2, ?_, hO, Step.refl _ _ _, ?_⟩
    · rw [hc, decide_eq_false (by omega), Bool.not_false, kbt]
    · rw [hdi a]
      exact ⟨none, 0, rfl, fun h => by simp [parP] at h⟩
  · have hc : chkF s.n (a : Nat) (b : Nat) = 0 := by
      unfold chkF
      rw [if_pos ⟨⟨by omega, by omega⟩, ⟨by omega, by omega⟩, by omega⟩]
    have hv := (h.C.vec a b ha hb).lst
    obtain ⟨own', m', x', g1, g2, g3, g4⟩ := loop20 (base := base) (z' + 1) (fun v m => some (.pan v, m)) (fun y9_18 m => some (.ret (.tuple #[y9_18, vi 0]), m)) (hpar a b) (hcl a b) (show k + 10 + 5 * a + b ≠ 47 by omega) (z' + 2) 0 own m nilS (by omega) (by have := hcl a b; omega) hO hbm hv (.inl ⟨rfl, rfl⟩)
    refine ⟨own', m', x', vi 0, ?_, g2, g3, ?_⟩
    · rw [hc, decide_eq_true rfl, Bool.not_true, kbf, mnil_pt, k1s, h.H.chs, gix s54 d.rc 0 s.n s.n a ha, k1s, Nat.zero_add, Nat.mul_one, gld1 a104, h.C.cell a ha, k1s, gix s104 (d.ri a) 0 s.n s.n b hb, k1s, Nat.zero_add, Nat.mul_one, gld1 a103, h.C.icell a b ha hb, k1s, hv.len i103, k2s, i0]
      exact g1
    · have := g4.lst
      unfold Nums
      rw [parP_len _ (hpar a b)]
      exact this
end
end Go.AM
namespace Go.AM
open Go Go.Proofs
theorem Step.pushT (T : Nat → Prop) (own : Nat → Nat) (m y : M) (t : Nat) : Step T own m (upd own m.length t) (m ++ y) :=
  ⟨by simp, fun r hr => upd_ne _ _ (by omega), fun r hr _ => push_get hr⟩
section
variable {own : Nat → Nat} {m : M} {base : Nat}
theorem t46 (z : Nat) (hz : 1001 ≤ z) {k : Nat} (k0 : 1000 ≤ k) {x0 v cv : Value} {l : List Evt} {l0 cut : List Int} {tc : Nat} (htc : tc ≠ 40 ∧ tc ≠ 7 ∧ tc < 1000) (hcN : cut.length = l0.length) (hl : l.length ≤ 1000) (hnew : newOk l0 = true)
    (hst : ∀ i, i < l.length → (evt l i).st = (sN l i : Int) ∧ sN l i < l0.length ∧ 1 ≤ (evt l i).what ∧ (evt l i).what ≤ 3) (hok : (repF (fun j => decide ((oN l j : Int) < nth cut (sN l j))) l (initS l0) l.length).1 = true) (hO : Own base own) (hbm : base ≤ m.length) (hv : Evs own 0 m v l) (h0 : Nums own 0 m x0 l0) (hc : Nums own tc m cv cut) :
    ∃ own' m' p d, rt (z + 6) base 46 [x0, v, cv] m = some (.ret (.tuple #[pt p 0, .bool true]), m') ∧ Own base own' ∧ Step (fun t => t = 40 ∨ netT k t) own m own' m' ∧ Net own' k m' p d (repN (fun j => decide ((oN l j : Int) < nth cut (sN l j))) l l0 l.length) := by
  have hn2 : 2 ≤ l0.length ∧ l0.length ≤ 5 := by
    have hnew := hnew
    unfold newOk at hnew
    simp only [Bool.and_eq_true, decide_eq_true_eq] at hnew
    exact hnew.1
  obtain ⟨_, n2⟩ := t15 (k := k) (z + 1) (by omega) k0 hO hbm h0
  obtain ⟨own1, m1, p, d, g1, g2, g3, g4⟩ := n2 hnew
  have n0 : ¬ netT k 0 := by unfold netT; omega
  have ntc : ¬ netT k tc := by unfold netT; omega
  have hbm1 : base ≤ m1.length := Nat.le_trans hbm g3.len
  let m2 : M := m1 ++ [rowz 1 true (List.replicate l0.length (vi 0))]
  let own2 := upd own1 m1.length 40
  have s2 : ∀ T : Nat → Prop, Step T own1 m1 own2 m2 := fun T => Step.push T _ _ _ _
  have hm2 : m2.length = m1.length + 1 := by simp [m2]
  have hA0 : NumR own2 m2 m1.length (cutP l l0.length 0) := by
    have e : cutP l l0.length 0 = List.replicate l0.length 0 := nth_ext (by rw [cutP_len, List.length_replicate]) fun j hj => by
      rw [cutP_len] at hj
      rw [cutP_nth l l0.length hj, rep_nth]
      rfl
    rw [e]
    exact NumR.new own1 m1 l0.length
  have hv1 := hv.step g3 n0 n0
  have h01 : Nums own1 0 m1 x0 l0 := Lst.step h0 g3 n0
  have hc1 : Nums own1 tc m1 cv cut := Lst.step hc g3 ntc
  obtain ⟨own', m', d', q1, q2, q3, q4⟩ := loop46 (base := base) (k := k) (p := p) z (by omega) (fun v m => some (.pan v, m)) (fun y6_65 y7_66 m => some (.ret (.tuple #[y6_65, y7_66]), m)) (fun y8_67 m => some (.ret (.tuple #[y8_67, .bool true]), m)) k0 htc hbm1 rfl hcN hl hnew hst hok (z + 5) 0 own2 m2 d (by omega) (by omega) (g4.upd hbm1 40) (by omega) (hv1.step (s2 fun _ => False) (fun h => h) (fun h => h)) (Lst.step h01 (s2 fun _ => False) (fun h => h)) (Lst.step hc1 (s2 fun _ => False) (fun h => h)) hA0 (g2.step (s2 fun _ => False) (fun _ h => h.elim))
  refine ⟨own', m', p, d', ?_, q2, (g3.mono fun t ht => .inr ht).trans ((s2 _).trans q3), q4⟩
  rw [rt_imp (f := 46) (rf := rf46) (by kernel_rfl) (by kernel_rfl) (by kernel_rfl)]
  show r46 (rt (z + 5)) (z + 5) base x0 v cv m = _
  unfold r46
  rw [k1_fun, vcall_fun, g1, kcs, ext0, k1s, ext1, k1s, neqE, k1s, decide_eq_true rfl, Bool.not_true, kbf, hc1.len i22, k2s, h01.len i22, k2s, hcN, neqI, k1s, decide_eq_true rfl, Bool.not_true, kbf, h01.len i22, k2s, mk22 m1 l0.length (by omega), k2s, rep1, i0]
  exact q1
theorem loop10c (z : Nat) (hz : 2000 ≤ z) (kp kr : Value → M → Res2) (kx : Value → Value → Value → Value → Value → Value → Value → Value → M → Res2) (x0 x5 x7 x8 : Value) {b9 p n a : Nat} {P U : Value} {R : Nat → Nat} {pc : Nat → Int} {hr : Nat → Nat → List Int} {V : Nt} {d : NP} (hVn : V.n = n) (ha : a < n) (hcl : ∀ a b, (V.ch a b).length ≤ 1000) (hpar : ∀ a b no, Ms.mark no ∉ V.ch a b) (hdi : ∀ a, V.ch a a = []) (hV : ∀ a b, a < n → b < n → parP (V.ch a b) = hr a b) (hlen : ∀ a b, (hr a b).length ≤ 1000) :
    ∀ (w b : Nat) (own : Nat → Nat) (m : M), b ≤ n → n + 1 ≤ w + b → Own base own → base ≤ m.length → Net own 2000 m p d V → mcell m b9 1 = some U → own b9 = 0 → Shot own m P U n R pc hr →
      ∃ own' m', r10_L4 (rt (z + 2)) (z + 2) base kp kr kx w x0 x5 (vi n) x7 x8 (pt b9 0) (pt p 0) (vi a) (vi b) m = kx x0 x5 (vi n) x7 x8 (pt b9 0) (pt p 0) (vi a) m' ∧ Own base own' ∧ Step (· = 47) own m own' m'
  | 0, b, own, m, hb, hw, hO, hbm, h, h1, ht, hS => by omega
  | w + 1, b, own, m, hb, hw, hO, hbm, h, h1, ht, hS => by
    have n5 : n ≤ 5 := by rw [← hVn]; exact h.n5
    rw [r10_L4_s, lssN, k1s]
    by_cases hlt : b < n
    · obtain ⟨pp, off, e, _, _, hc⟩ := hS.u.ix s60 ha
      obtain ⟨own1, m1, v, er, g1, hO1, s1, hN⟩ := t20 (base := base) z (by omega) hO hbm h (show a < V.n by omega) (show b < V.n by omega) hcl hpar hdi
      have hS1 := hS.step n5 s1 (fun t ht => by omega)
      have h11 : mcell m1 b9 1 = some U := s1.cell h1 (by rw [ht]; omega)
      have ht1 : own1 b9 = 0 := (s1.tg b9 (mcell_lt h1)).trans ht
      obtain ⟨pp1, off1, e1, _, _, hc1⟩ := hS1.u.ix s60 ha
      obtain ⟨wv, q1, q2⟩ := (hS1.rows a ha).cell b hlt
      rw [hV a b ha hlt] at hN
      obtain ⟨own', m', r1, r2, r3⟩ := loop10c z hz kp kr kx x0 x5 x7 x8 hVn ha hcl hpar hdi hV hlen w (b + 1) own1 m1 (by omega) (by omega) hO1 (Nat.le_trans hbm s1.len) (h.step s1 (fun t ht => by omega)) h11 ht1 hS1
      refine ⟨own', m', ?_, r2, s1.trans r3⟩
      rw [decide_eq_true hlt, kbt, gfd f62_1, k1s, gld1 a60, Nat.zero_add, h1, k1s, e, k1s, gld1 a80, hc.cell, k1s, glen i80, k2s, neqI, k1s, decide_eq_true rfl, Bool.not_true, kbf, g1, kcs, ext0, k1s, ext1, k1s, k1s, gld1 a60, h11, k1s, e1, k1s, gld1 a80, hc1.cell, k1s, gix s80 (R a) 0 n n b hlt, k1s, gld1 a22, show 0 + b * 1 = b by omega, q1, k1s, t17 (z + 1) base (by omega) hN q2 (hlen a b), kcs, notB 4, k1s, Bool.not_true, kbf, add1 3 _ (by omega), k1s]
      exact r1
    · obtain rfl : b = n := by omega
      refine ⟨own, m, ?_, hO, Step.refl _ _ _⟩
      rw [decide_eq_false hlt, kbf]
theorem loop10b (z : Nat) (hz : 2000 ≤ z) (kp kr : Value → M → Res2) (kx : Value → Value → Value → Value → Value → M → Res2) (x0 x5 x7 x8 : Value) {b9 p n : Nat} {P U : Value} {R : Nat → Nat} {pc : Nat → Int} {hr : Nat → Nat → List Int} {V : Nt} {d : NP} (hVn : V.n = n) (hcl : ∀ a b, (V.ch a b).length ≤ 1000) (hpar : ∀ a b no, Ms.mark no ∉ V.ch a b) (hdi : ∀ a, V.ch a a = []) (hV : ∀ a b, a < n → b < n → parP (V.ch a b) = hr a b) (hlen : ∀ a b, (hr a b).length ≤ 1000) :
    ∀ (w a : Nat) (own : Nat → Nat) (m : M), a ≤ n → n + 1 ≤ w + a → Own base own → base ≤ m.length → Net own 2000 m p d V → mcell m b9 1 = some U → own b9 = 0 → Shot own m P U n R pc hr →
      ∃ own' m', r10_L2 (rt (z + 2)) (z + 2) base kp kr kx w x0 x5 (vi n) x7 x8 (pt b9 0) (pt p 0) (vi a) m = kx x0 x5 (vi n) x7 x8 m' ∧ Own base own' ∧ Step (· = 47) own m own' m'
  | 0, a, own, m, hb, hw, hO, hbm, h, h1, ht, hS => by omega
  | w + 1, a, own, m, hb, hw, hO, hbm, h, h1, ht, hS => by
    have n5 : n ≤ 5 := by rw [← hVn]; exact h.n5
    rw [r10_L2_s, lssN, k1s]
    by_cases hlt : a < n
    · obtain ⟨own1, m1, g1, hO1, s1⟩ := loop10c (base := base) z hz (fun v m => kp v m) (fun y4_62 m => (kr y4_62 m)) (fun y0_63 y5_64 y6_65 y7_66 y8_67 y9_68 y15_69 y16_70 m => (k1n (mbin E .add 3 y16_70 (.int .i64 1)) fun v102_71 => (r10_L2 (rt (z + 2)) (z + 2) base kp kr kx w y0_63 y5_64 y6_65 y7_66 y8_67 y9_68 y15_69 v102_71 m))) x0 x5 x7 x8 hVn hlt hcl hpar hdi hV hlen (z + 2) 0 own m (by omega) (by omega) hO hbm h h1 ht hS
      obtain ⟨own', m', r1, r2, r3⟩ := loop10b z hz kp kr kx x0 x5 x7 x8 hVn hcl hpar hdi hV hlen w (a + 1) own1 m1 (by omega) (by omega) hO1 (Nat.le_trans hbm s1.len) (h.step s1 (fun t ht => by omega)) (s1.cell h1 (by rw [ht]; omega)) ((s1.tg b9 (mcell_lt h1)).trans ht) (hS.step n5 s1 (fun t ht => by omega))
      refine ⟨own', m', ?_, r2, s1.trans r3⟩
      rw [decide_eq_true hlt, kbt, i0]
      refine g1.trans ?_
      rw [add1 3 _ (by omega), k1s]
      exact r1
    · obtain rfl : a = n := by omega
      refine ⟨own, m, ?_, hO, Step.refl _ _ _⟩
      rw [decide_eq_false hlt, kbf]
end
end Go.AM
namespace Go.AM
open Go Go.Proofs
section
variable {own : Nat → Nat} {m : M} {base : Nat}
theorem loop10a (z : Nat) (kp kr : Value → M → Res2) (kx : M → Res2) {s : Nt} {l0 : List Int} {p : Nat} {x0 v : Value} (hlen : ∀ i t f, ((s.sh i t).hrd f).length ≤ 1000) (hE : EI s) (hS : SI l0 s) (hD : DI s) (hPo : PosE s) (hn : l0.length = s.n) (hnew : newOk l0 = true) (hle : s.evs.length ≤ 60) :
    ∀ (w no : Nat) (own : Nat → Nat) (m : M) (d : NP), no ≤ 9 → 10 ≤ w + no → Own base own → base ≤ m.length → Net own 1000 m p d s → Evs own 0 m v s.evs → Nums own 0 m x0 l0 →
      ∃ m', r10_L0 (rt (z + 3002)) (z + 3002) base kp kr kx w x0 (pt p 0) (vi s.n) v (vi no) m = kx m'
  | 0, no, own, m, d, hno, hw, hO, hbm, h, hv, h0 => by omega
  | w + 1, no, own, m, d, hno, hw, hO, hbm, h, hv, h0 => by
    have n5 := h.n5
    have n2 := h.n2
    rw [r10_L0_s, show (.int .i64 8 : Value) = vi 8 from rfl, leqI, k1s]
    by_cases hlt : (no : Int) ≤ 8
    · obtain ⟨own1, m1, A, la, ca, A', la', ca', g1, hO1, s1, hshot⟩ := t31 (base := base) (z + 2990) hlen hO hbm h (no : Int)
      have h1 := h.step s1 (fun t ht => by omega)
      have hv1 := hv.step s1 (by omega) (by omega)
      have h01 : Nums own1 0 m1 x0 l0 := Lst.step h0 s1 (by omega)
      let m2 : M := m1 ++ [cellR [.slice A la ca, .slice A' la' ca']]
      let own2 := upd own1 m1.length 0
      have s2 : ∀ T : Nat → Prop, Step T own1 m1 own2 m2 := fun T => Step.push T _ _ _ _
      have hm2 : m2.length = m1.length + 1 := by simp [m2]
      have hbm1 : base ≤ m1.length := Nat.le_trans hbm s1.len
      have hO2 : Own base own2 := hO1.upd hbm1 _
      have hst : xstore E.P base (m1 ++ [cellR [nilS, nilS]]) 62 (pt m1.length 0) (.agg #[.slice A la ca, .slice A' la' ca']) = some m2 := by
        have := gstk (t := 62) (k := 2) z62 (l := [.slice A la ca, .slice A' la' ca']) rfl rfl (off := 0) hbm1 (Hd_new m1 0 true [nilS, nilS]) (by simp)
        rw [mwr_new m1 0 true [nilS, nilS] [.slice A la ca, .slice A' la' ca'] rfl] at this
        exact this
      have hcn := Cs_new m1 0 true [.slice A la ca, .slice A' la' ca']
      have tg2 : own2 m1.length = 0 := upd_self _ _ _
      have h2 := h1.step (s2 fun _ => False) (fun _ h => h.elim)
      have hv2 := hv1.step (s2 fun _ => False) (fun h => h) (fun h => h)
      have h02 : Nums own2 0 m2 x0 l0 := Lst.step h01 (s2 fun _ => False) (fun h => h)
      obtain ⟨own3, m3, cv, g3, hO3, s3, hcut⟩ := t32 (base := base) (z + 2990) hO2 (by omega) h2 (no : Int)
      have h3 := h2.step s3 (fun t ht => by omega)
      have hv3 := hv2.step s3 (by omega) (by omega)
      have h03 : Nums own3 0 m3 x0 l0 := Lst.step h02 s3 (by omega)
      have c03 : mcell m3 m1.length 0 = some (.slice A la ca) := s3.cell (hcn 0 _ rfl) (by rw [tg2]; omega)
      have c13 : mcell m3 m1.length 1 = some (.slice A' la' ca') := s3.cell (hcn 1 _ rfl) (by rw [tg2]; omega)
      have tg3 : own3 m1.length = 0 := (s3.tg _ (by omega)).trans tg2
      have hbm3 : base ≤ m3.length := Nat.le_trans (Nat.le_trans hbm1 (by omega)) s3.len
      by_cases he : snapE s no = 0
      · obtain ⟨e1, e2, e3⟩ := snapE_0 he
        have hdn := doneS_all n5 e3
        obtain ⟨R, hSh⟩ := hshot he
        have hSh3 := (hSh.step n5 (s2 fun _ => False) (fun _ h => h.elim)).step n5 s3 (fun t ht => by omega)
        obtain ⟨hcN, rc, hcv⟩ := hcut he
        let si := (no : Int).toNat - 1
        have hcn2 : ∀ t, t < s.n → nth (cutS s si) t = (s.sh si t).evs := fun t ht => cutS_nth ht
        have hEr : errF (s.n : Nat) s.evs = 0 := hE.err n2 n5 hle
        have hh := cut_hold hE hS hPo (i := si) hdn (cutS_len s si) hcn2
        -- the replay
        have hWeq : repF (fun j => decide ((oN s.evs j : Int) < nth (cutS s si) (sN s.evs j))) s.evs (initS l0) s.evs.length = rep l0 s si := repF_congr fun j hj => ⟨by
          rw [hcn2 _ (hE.sN hj).2]
          unfold wthn
          rw [(hdn _ (hE.sN hj).2).1]
          rfl, rfl⟩
        obtain ⟨v1, v2, v3, v4⟩ := snap_V hS hD (i := si) hdn
        obtain ⟨own4, m4, p4, d4, g4, hO4, s4, h4V⟩ := t46 (base := base) (z + 2996) (by omega) (k := 2000) (by omega) (tc := 45) (by omega) ((cutS_len s si).trans hn.symm) (by omega) hnew (fun i hi => ⟨(hE.sN hi).1, by rw [hn]; exact (hE.sN hi).2, evs_what hE i hi⟩) (by rw [hWeq]; exact v1) hO3 hbm3 hv3 h03 hcN
        have hV : repN (fun j => decide ((oN s.evs j : Int) < nth (cutS s si) (sN s.evs j))) s.evs l0 s.evs.length = (rep l0 s si).2 := by
          unfold repN
          rw [hWeq]
        have hI := repN_inv (w := fun j => decide ((oN s.evs j : Int) < nth (cutS s si) (sN s.evs j))) (l := s.evs) hnew s.evs.length
        rw [hV] at h4V hI
        obtain ⟨V, hVd⟩ : ∃ V, V = (rep l0 s si).2 := ⟨_, rfl⟩
        have hpar : ∀ a b no, Ms.mark no ∉ V.ch a b := by rw [hVd]; exact (hS.vr si).par
        have hdi : ∀ a, V.ch a a = [] := by
          rw [hVd]
          have : DI (rep l0 s si).2 := DI.rep _
          exact this.c
        rw [← hVd] at h4V v2 v3 v4 hI
        have hT4 : ∀ t, (t = 40 ∨ netT 2000 t) → 0 < t ∧ t ≠ 45 ∧ (t < 300 ∨ 2000 ≤ t) := fun t ht => by
          unfold netT at ht
          omega
        have h4 := h3.step s4 (fun t ht => by have := hT4 t ht; omega)
        have hv4 := hv3.step s4 (fun a => by have := hT4 _ a; omega) (fun a => by have := hT4 _ a; omega)
        have h04 : Nums own4 0 m4 x0 l0 := Lst.step h03 s4 (fun a => by have := hT4 _ a; omega)
        have hSh4 := hSh3.step n5 s4 (fun t ht => by have := hT4 t ht; omega)
        have n0 : ¬ (0 = 40 ∨ netT 2000 0) := fun a => by have := hT4 _ a; omega
        have c04 : mcell m4 m1.length 0 = some (.slice A la ca) := s4.cell c03 (by rw [tg3]; exact n0)
        have c14 : mcell m4 m1.length 1 = some (.slice A' la' ca') := s4.cell c13 (by rw [tg3]; exact n0)
        have tg4 : own4 m1.length = 0 := (s4.tg _ (mcell_lt c03)).trans tg3
        have hbm4 : base ≤ m4.length := Nat.le_trans hbm3 s4.len
        -- its pieces
        obtain ⟨y, pv, g5, hN5, hy⟩ := t33 (z + 3000) (by omega) h4V
        let own5 := upd own4 m4.length 46
        have s5 : ∀ T : Nat → Prop, Step T own4 m4 own5 (m4 ++ y) := fun T => Step.pushT T own4 m4 y 46
        have hO5 : Own base own5 := hO4.upd hbm4 46
        have h5 := h4.step (s5 fun _ => False) (fun _ h => h.elim)
        have h5V := h4V.step (s5 fun _ => False) (fun _ h => h.elim)
        have hv5 := hv4.step (s5 fun _ => False) (fun h => h) (fun h => h)
        have h05 : Nums own5 0 (m4 ++ y) x0 l0 := Lst.step h04 (s5 fun _ => False) (fun h => h)
        have hSh5 := hSh4.step n5 (s5 fun _ => False) (fun _ h => h.elim)
        have c05 : mcell (m4 ++ y) m1.length 0 = some (.slice A la ca) := (s5 fun _ => False).cell c04 (fun h => h)
        have c15 : mcell (m4 ++ y) m1.length 1 = some (.slice A' la' ca') := (s5 fun _ => False).cell c14 (fun h => h)
        have tg5 : own5 m1.length = 0 := ((s5 fun _ => False).tg _ (mcell_lt c04)).trans tg4
        have hP : Nums own5 300 (m4 ++ y) (.slice A la ca) (pcsL V) := by
          have := hSh5.p.congr (C' := fun i => [vi (nth (pcsL V) i)]) (fun i hi => by rw [pcsL_nth (by rw [v2]; exact hi), v3 i hi])
          unfold Nums
          rw [pcsL_len, v2]
          exact this
        obtain ⟨own6, m6, g6, hO6, s6⟩ := loop10b (base := base) (z + 3000) (by omega) (fun v m => kp v m) (fun y4_72 m => (kr y4_72 m)) (fun y0_73 y5_74 y6_75 y7_76 y8_77 m => (k1n (mbin E .add 3 y8_77 (.int .i64 1)) fun v42_78 => (r10_L0 (rt (z + 3002)) (z + 3002) base kp kr kx w y0_73 y5_74 y6_75 y7_76 v42_78 m))) x0 (pt p 0) v (vi no) (b9 := m1.length) (P := .slice A la ca) (U := .slice A' la' ca') (R := R) (pc := fun t => (s.sh si t).pcs) (hr := fun a t => (s.sh si t).hrd a) v2 (fun a b => by have := hI.lim.cl a b; omega) hpar hdi v4 (fun a b => hlen _ _ _) (z + 3002) 0 own5 (m4 ++ y) (by omega) (by omega) hO5 (by simp; omega) h5V c15 tg5 hSh5
        obtain ⟨m', q⟩ := loop10a z kp kr kx hlen hE hS hD hPo hn hnew hle w (no + 1) own6 m6 d (by omega) (by omega) hO6 (Nat.le_trans (by simp; omega) s6.len) (h5.step s6 (fun t ht => by omega)) (hv5.step s6 (by omega) (by omega)) (Lst.step h05 s6 (by omega))
        refine ⟨m', ?_⟩
        rw [decide_eq_true hlt, kbt, g1, kcs, ext0, k1s, ext1, k1s, al62, k2s, hst, kss, g3, kcs, ext0, k1s, ext1, k1s, neqE, k1s, decide_eq_true he, Bool.not_true, kbf, k1s, kbf, t35 (z + 2999) base (by omega) hv3 hcN, kcs, ext0, k1s, ext1, k1s, conF_yes hEr (cutS_len s _), neqE, k1s, decide_eq_true rfl, Bool.not_true, kbf, hh, notB 4, k1s, Bool.not_true, kbf, g4, kcs, ext0, k1s, ext1, k1s, notB 4, k1s, Bool.not_true, kbf, g5, kB_push, kcs, gfd f62_0, k1s, gld1 a22, Nat.zero_add, c05, k1s, t17 (z + 3001) _ (by omega) hN5 hP (by rw [pcsL_len, v2]; omega), kB_same, kcs, notB 4, k1s, Bool.not_true, kbf, gfd f62_1, k1s, gld1 a60, Nat.zero_add, c15, k1s, hSh5.u.len i60, k2s, neqI, k1s, decide_eq_true rfl, Bool.not_true, kbf, i0]
        refine g6.trans ?_
        rw [add1 3 _ (by omega), k1s]
        exact q
      · obtain ⟨m', q⟩ := loop10a z kp kr kx hlen hE hS hD hPo hn hnew hle w (no + 1) own3 m3 d (by omega) (by omega) hO3 hbm3 h3 hv3 h03
        refine ⟨m', ?_⟩
        rw [decide_eq_true hlt, kbt, g1, kcs, ext0, k1s, ext1, k1s, al62, k2s, hst, kss, g3, kcs, ext0, k1s, ext1, k1s, neqE, k1s, decide_eq_false he, Bool.not_false, kbt, add1 3 _ (by omega), k1s]
        exact q
    · refine ⟨m, ?_⟩
      rw [decide_eq_false hlt, kbf]
end
theorem law10 (z : Nat) (hz : 3000 ≤ z) {m : M} {v w : Value} {l : List Int} {acts : List ActD} (hv : Nums (fun _ => 0) 0 m v l) (hw : Acs (fun _ => 0) m w acts) : ∃ m', rt (z + 3003) m.length 10 [v, w] m = some (.ret (.bool true), m') := by
  rw [rt_imp (f := 10) (rf := rf10) (by kernel_rfl) (by kernel_rfl) (by kernel_rfl) (z + 3002)]
  show ∃ m', r10 (rt (z + 3002)) (z + 3002) m.length v w m = _
  unfold r10
  rw [k1_fun, vcall_fun, fVal_fun, hv.len i22, k2s, show (.int .i64 20 : Value) = vi 20 from rfl, gtrI, k1s]
  by_cases h1 : ((l.length : Nat) : Int) > 20
  · rw [decide_eq_true h1, kbt, rt14, kcs]
    exact ⟨m, rfl⟩
  rw [decide_eq_false h1, kbf, hw.len i23, k2s, show (.int .i64 60 : Value) = vi 60 from rfl, gtrI, k1s]
  by_cases h6 : ((acts.length : Nat) : Int) > 60
  · rw [decide_eq_true h6, kbt, rt14, kcs]
    exact ⟨m, rfl⟩
  rw [decide_eq_false h6, kbf]
  obtain ⟨n1, n2⟩ := t43 (k := 1000) (base := m.length) (z + 2996) (by omega) (Nat.le_refl _) (own0 m.length) (Nat.le_refl _) hv hw (by omega)
  cases hok : newOk l with
  | false =>
    rw [n1 hok, kcs, nilPn, k1s, kbt, rt14, kcs]
    exact ⟨m, rfl⟩
  | true =>
    obtain ⟨own1, m1, p, d1, g1, g2, g3, g4⟩ := n2 hok
    obtain ⟨e1, e2⟩ := acts_len acts (initS l)
    have e1 : (actsN (initS l) acts).evs.length ≤ acts.length := by
      refine Nat.le_trans e1 ?_
      show 0 + acts.length ≤ _
      omega
    have e2 : (actsN (initS l) acts).n = l.length := e2
    have I0 := NInv.init hok
    have hNI := I0.acts acts
    have hEI := (EI.init l).acts acts
    have hSI := (SI.init l).acts I0 (EI.init l) (CK.init l) acts
    have hDI := (DI.init l).acts acts
    have hPo := (PosE.init l).acts I0 acts
    have hn2 : 2 ≤ l.length ∧ l.length ≤ 5 := by
      have hok := hok
      unfold newOk at hok
      simp only [Bool.and_eq_true, decide_eq_true_eq] at hok
      exact hok.1
    have hL := hNI.lim
    obtain ⟨own2, m2, u, q1, q2, q3, q4⟩ := t26 (base := m.length) (z + 3000) (by omega) g4 g2 (by omega) (fun i hi => by
      have := (hEI.ok i hi).2
      rw [e2] at this
      refine ⟨fun h => by rw [h] at this; simp at this; omega, by omega⟩)
    have h2 : Net own2 1000 m2 p d1 (actsN (initS l) acts) := g2.step q4 (fun t ht => by omega)
    have hv1 : Nums own1 0 m1 v l := Lst.step hv g3 (by unfold netT; omega)
    have hv2 : Nums own2 0 m2 v l := Lst.step hv1 q4 (by omega)
    have hlen : m.length ≤ m2.length := Nat.le_trans g3.len q4.len
    obtain ⟨m', q⟩ := loop10a (base := m.length) z (fun v m => some (.pan v, m)) (fun y4_79 m => some (.ret y4_79, m)) (fun m' => (kc (rt (z + 3002) m.length 14 [] m') (fun v134_80 m => some (.ret v134_80, m)) (fun v m => some (.pan v, m)))) (fun i t f => by have := hL.hh i t f; omega) hEI hSI hDI hPo e2.symm hok (by omega) (z + 3002) 1 own2 m2 d1 (by omega) (by omega) q2 hlen h2 q3 hv2
    refine ⟨m', ?_⟩
    rw [g1, kcs, nilP25, k1s, kbf, hv1.len i22, k2s, q1, kcs]
    rw [e2] at q
    refine Eq.trans q ?_
    rw [rt14 (z + 3001), kcs]
theorem law10c {m : M} {v w : Value} {l : List Int} {acts : List ActD} (hv : Nums (fun _ => 0) 0 m v l) (hw : Acs (fun _ => 0) m w acts) : ∃ m', rt 9003 m.length 10 [v, w] m = some (.ret (.bool true), m') := law10 6000 (by omega) hv hw
end Go.AM
