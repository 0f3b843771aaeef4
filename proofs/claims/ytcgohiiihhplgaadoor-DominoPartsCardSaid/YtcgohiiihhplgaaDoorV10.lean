import Derived.Carry
import Derived.Handy
import Derived.KernelRfl
import Derived.Laws.BytesArg
import Derived.Laws.StructEq
import Derived.Maps.AppendAt
import Derived.Maps.OwnOps
import Derived.Maps.RangeRun
import Derived.Maps.RangeWalk
import Derived.Test.YtcgohiiihhplgaaDoorRows
import Derived.WalkKit
import Derived.Test.YtcgohiiihhplgaaDoorAmB
import Derived.Test.YtcgohiiihhplgaaDoorAmModel
import Derived.Test.YtcgohiiihhplgaaDoorAmOps6
import Derived.Test.YtcgohiiihhplgaaDoorAmCode
import Derived.Test.YtcgohiiihhplgaaDoorAmK2
import Derived.Test.YtcgohiiihhplgaaDoorAmEq
import Derived.Test.YtcgohiiihhplgaaDoorRBase
import Derived.Test.YtcgohiiihhplgaaDoorB1
import Derived.Test.YtcgohiiihhplgaaDoorK1
import Derived.Test.YtcgohiiihhplgaaDoorR6
import Derived.Test.YtcgohiiihhplgaaDoorR41
import Derived.Test.YtcgohiiihhplgaaDoorR42
import Derived.Test.YtcgohiiihhplgaaDoorD3
import Derived.Test.YtcgohiiihhplgaaDoorK3
import Derived.Test.YtcgohiiihhplgaaDoorAmS
import Derived.Test.YtcgohiiihhplgaaDoorK4
import Derived.Test.YtcgohiiihhplgaaDoorK5
import Derived.Test.YtcgohiiihhplgaaDoorK6
import Derived.Test.YtcgohiiihhplgaaDoorS13
import Derived.Test.YtcgohiiihhplgaaDoorS14
import Derived.Test.YtcgohiiihhplgaaDoorD0
import Derived.Test.YtcgohiiihhplgaaDoorDet1
import Derived.Test.YtcgohiiihhplgaaDoorDH1
import Derived.Test.YtcgohiiihhplgaaDoorD4
import Derived.Test.YtcgohiiihhplgaaDoorM1
import Derived.Test.YtcgohiiihhplgaaDoorM2
import Derived.Test.YtcgohiiihhplgaaDoorU1
import Derived.Test.YtcgohiiihhplgaaDoorT6
import Derived.Test.YtcgohiiihhplgaaDoorV2
set_option linter.unusedVariables false
set_option linter.unusedSimpArgs false
set_option linter.unusedSectionVars false
namespace Go.AM
open Go Go.Proofs
theorem r31_L6_s (call : CallF) (fuel base : Nat) (kx6 : Value → Value → Value → Value → Value → Value → Value → M → Res2) (n : Nat) (x0 x4 x5 x6 x7 x9 x10 x11 : Value) (m : M) : r31_L6 call fuel base kx6 (n + 1) x0 x4 x5 x6 x7 x9 x10 x11 m =
    (k1n (mbin E .lss 3 x11 (.int .i64 9)) fun v53_21 => (kb v53_21 (k1n (mindexAddr E.P 36 x9 x10) fun v58_22 => (k1n (mfieldAddr E.P 68 v58_22 0) fun v59_23 => (k1n (xload E.P m 3 v59_23) fun v60_24 => (k1n (mbin E .rem 3 x11 (.int .i64 3)) fun v62_25 => (k1n (mbin E .add 3 v60_24 v62_25) fun v63_26 => (k1n (mbin E .sub 3 v63_26 (.int .i64 1)) fun v64_27 => (k1n (mindexAddr E.P 36 x9 x10) fun v67_28 => (k1n (mfieldAddr E.P 68 v67_28 1) fun v68_29 => (k1n (xload E.P m 3 v68_29) fun v69_30 => (k1n (mbin E .quo 3 x11 (.int .i64 3)) fun v71_31 => (k1n (mbin E .add 3 v69_30 v71_31) fun v72_32 => (k1n (mbin E .sub 3 v72_32 (.int .i64 1)) fun v73_33 => (k1n (mbuild E.P 68 [(0, v64_27), (1, v73_33)]) fun v74_34 => (k2 (xalloc E.P m 68) fun v12_35 m => (ks (xstore E.P base m 68 v12_35 v74_34) fun m => (k1n (mfieldAddr E.P 68 v12_35 0) fun v75_36 => (k1n (xload E.P m 3 v75_36) fun v76_37 => (k1n (mbin E .geq 3 v76_37 (.int .i64 (-1))) fun v77_38 => (kb v77_38 (k1n (mfieldAddr E.P 68 v12_35 0) fun v79_39 => (k1n (xload E.P m 3 v79_39) fun v80_40 => (k1n (mindexAddr E.P 22 x0 (.int .i64 0)) fun v82_41 => (k1n (xload E.P m 9 v82_41) fun v83_42 => (k2 (vcalln E.P base m .len [9] [v83_42]) fun v84_43 m => (k1n (mbin E .leq 3 v80_40 v84_43) fun v85_44 => (kb v85_44 (k1n (mfieldAddr E.P 68 v12_35 1) fun v88_45 => (k1n (xload E.P m 3 v88_45) fun v89_46 => (k1n (mbin E .geq 3 v89_46 (.int .i64 (-1))) fun v90_47 => (kb v90_47 (k1n (mfieldAddr E.P 68 v12_35 1) fun v93_48 => (k1n (xload E.P m 3 v93_48) fun v94_49 => (k2 (vcalln E.P base m .len [22] [x0]) fun v96_50 m => (k1n (mbin E .leq 3 v94_49 v96_50) fun v97_51 => (kb v97_51 (k1n (mfieldAddr E.P 68 v12_35 0) fun v101_52 => (k1n (xload E.P m 3 v101_52) fun v102_53 => (k1n (mfieldAddr E.P 68 v12_35 1) fun v103_54 => (k1n (xload E.P m 3 v103_54) fun v104_55 => (kc (kB m (call m.length 47 [x0, v102_53, v104_55] m)) (fun v105_56 m => (k1n (mun .not v105_56) fun v106_57 => (kb v106_57 (k1n (xload E.P m 68 v12_35) fun v110_58 => (kc (kB m (call m.length 49 [x9, v110_58] m)) (fun v111_59 m => (k1n (mun .not v111_59) fun v112_60 => (kb v112_60 (k1n (xload E.P m 68 v12_35) fun v115_61 => (k2 (xbuildSlice E.P m 36 1 [(0, v115_61)]) fun v116_62 m => (k2 (vcalln E.P base m .append [36, 36] [x9, v116_62]) fun v117_63 m => (k1n (mbin E .add 3 x11 (.int .i64 1)) fun v55_64 => (r31_L6 call fuel base kx6 n x0 x4 x5 x6 x7 v117_63 x10 v55_64 m))))) (k1n (mbin E .add 3 x11 (.int .i64 1)) fun v55_65 => (r31_L6 call fuel base kx6 n x0 x4 x5 x6 x7 x9 x10 v55_65 m))))) (fun _ _ => none))) (k1n (mbin E .add 3 x11 (.int .i64 1)) fun v55_66 => (r31_L6 call fuel base kx6 n x0 x4 x5 x6 x7 x9 x10 v55_66 m))))) (fun _ _ => none)))))) (k1n (mbin E .add 3 x11 (.int .i64 1)) fun v55_67 => (r31_L6 call fuel base kx6 n x0 x4 x5 x6 x7 x9 x10 v55_67 m))))))) (k1n (mbin E .add 3 x11 (.int .i64 1)) fun v55_68 => (r31_L6 call fuel base kx6 n x0 x4 x5 x6 x7 x9 x10 v55_68 m)))))) (k1n (mbin E .add 3 x11 (.int .i64 1)) fun v55_69 => (r31_L6 call fuel base kx6 n x0 x4 x5 x6 x7 x9 x10 v55_69 m))))))))) (k1n (mbin E .add 3 x11 (.int .i64 1)) fun v55_70 => (r31_L6 call fuel base kx6 n x0 x4 x5 x6 x7 x9 x10 v55_70 m))))))))))))))))))))) (kx6 x0 x4 x5 x6 x7 x9 x10 m))) := by
  unfold r31_L6
  rw [k1_fun, vcall_fun]
theorem r31_L4_s (call : CallF) (fuel base : Nat) (kx4 : Value → Value → Value → Value → Value → Value → M → Res2) (n : Nat) (x0 x4 x5 x6 x7 x9 x10 : Value) (m : M) : r31_L4 call fuel base kx4 (n + 1) x0 x4 x5 x6 x7 x9 x10 m =
    (k2 (vcalln E.P base m .len [36] [x9]) fun v48_19 m => (k1n (mbin E .lss 3 x10 v48_19) fun v49_20 => (kb v49_20 (r31_L6 call fuel base (fun y0_71 y4_72 y5_73 y6_74 y7_75 y9_76 y10_77 m => (k1n (mbin E .add 3 y10_77 (.int .i64 1)) fun v51_78 => (r31_L4 call fuel base kx4 n y0_71 y4_72 y5_73 y6_74 y7_75 y9_76 v51_78 m))) fuel x0 x4 x5 x6 x7 x9 x10 (.int .i64 0) m) (kx4 x0 x4 x5 x6 x7 x9 m)))) := by
  unfold r31_L4
  rw [k1_fun, vcall_fun]
theorem r31_L2_s (call : CallF) (fuel base : Nat) (kp : Value → M → Res2) (kx2 : Value → Value → Value → Value → M → Res2) (n : Nat) (x0 x4 x5 x6 x7 : Value) (m : M) : r31_L2 call fuel base kp kx2 (n + 1) x0 x4 x5 x6 x7 m =
    (k1n (mindexAddr E.P 22 x0 (.int .i64 0)) fun v24_5 => (k1n (xload E.P m 9 v24_5) fun v25_6 => (k2 (vcalln E.P base m .len [9] [v25_6]) fun v26_7 m => (k1n (mbin E .leq 3 x7 v26_7) fun v27_8 => (kb v27_8 (k1n (mbuild E.P 68 [(0, x7), (1, x6)]) fun v32_9 => (k2 (xalloc E.P m 68) fun v8_10 m => (ks (xstore E.P base m 68 v8_10 v32_9) fun m => (kc (call base 47 [x0, x7, x6] m) (fun v36_11 m => (kb v36_11 (k1n (mbin E .add 3 x7 (.int .i64 1)) fun v29_12 => (r31_L2 call fuel base kp kx2 n x0 x4 x5 x6 v29_12 m)) (k1n (xload E.P m 68 v8_10) fun v39_13 => (kc (call base 49 [x4, v39_13] m) (fun v40_14 m => (kb v40_14 (k1n (mbin E .add 3 x7 (.int .i64 1)) fun v29_15 => (r31_L2 call fuel base kp kx2 n x0 x4 x5 x6 v29_15 m)) (k1n (mbin E .add 3 x5 (.int .i64 1)) fun v43_16 => (k1n (xload E.P m 68 v8_10) fun v44_17 => (k2 (xbuildSlice E.P m 36 1 [(0, v44_17)]) fun v45_18 m => (r31_L4 call fuel base (fun y0_79 y4_80 y5_81 y6_82 y7_83 y9_84 m => (k2 (vcalln E.P base m .append [36, 36] [y4_80, y9_84]) fun v120_85 m => (k1n (mbin E .add 3 y7_83 (.int .i64 1)) fun v29_86 => (r31_L2 call fuel base kp kx2 n y0_79 v120_85 y5_81 y6_82 v29_86 m)))) fuel x0 x4 v43_16 x6 x7 v45_18 (.int .i64 0) m)))))) (fun v m => kp v m))))) (fun v m => kp v m))))) (kx2 x0 x4 x5 x6 m)))))) := by
  unfold r31_L2
  rw [k1_fun, vcall_fun]
theorem r31_L0_s (call : CallF) (fuel base : Nat) (kp : Value → M → Res2) (kx0 : Value → M → Res2) (n : Nat) (x0 x4 x5 x6 : Value) (m : M) : r31_L0 call fuel base kp kx0 (n + 1) x0 x4 x5 x6 m =
    (k2 (vcalln E.P base m .len [22] [x0]) fun v18_3 m => (k1n (mbin E .leq 3 x6 v18_3) fun v19_4 => (kb v19_4 (r31_L2 call fuel base (fun v m => kp v m) (fun y0_87 y4_88 y5_89 y6_90 m => (k1n (mbin E .add 3 y6_90 (.int .i64 1)) fun v21_91 => (r31_L0 call fuel base kp kx0 n y0_87 y4_88 y5_89 v21_91 m))) fuel x0 x4 x5 x6 (.int .i64 (-1)) m) (kx0 x5 m)))) := by
  unfold r31_L0
  rw [k1_fun, vcall_fun]
structure HInv (w h : Nat) (g r : B) (X : List B) (S : List Cel) (n P : Nat) : Prop where
  cl : Clos8 r g
  lo : ∀ i, r.getLsbD i = true → P ≤ i
  spl : ∃ k, 64 - unc r < k ∧ X ++ spl8 k r = spl8 65 g
  nd : S.Nodup
  mem : ∀ d : Cel, d ∈ S ↔ bord w h d = true ∨ inB (outB w h g ||| (g &&& ~~~r)) d.1 d.2 = true
  cnt : n = 1 + (X.filter (goodP w h)).length
theorem HInv.skip {w h : Nat} {g r : B} {X : List B} {S : List Cel} {n P : Nat} (H : HInv w h g r X S n P) (h0 : r.getLsbD P = false) : HInv w h g r X S n (P + 1) :=
  ⟨H.cl, fun i hi => by
    have := H.lo i hi
    rcases Nat.eq_or_lt_of_le this with e | e
    · subst e; rw [h0] at hi; simp at hi
    · exact e, H.spl, H.nd, H.mem, H.cnt⟩
theorem HInv.jump {w h : Nat} {g r : B} {X : List B} {S : List Cel} {n P Q : Nat} (H : HInv w h g r X S n P) (h0 : ∀ i, g.getLsbD i = true → P ≤ i → Q ≤ i) : HInv w h g r X S n Q :=
  ⟨H.cl, fun i hi => h0 i (H.cl.sub i hi) (H.lo i hi), H.spl, H.nd, H.mem, H.cnt⟩
theorem HInv.next {w h : Nat} {g r : B} {X : List B} {S : List Cel} {n P : Nat} (H : HInv w h g r X S n P) (h0 : r.getLsbD P = true) :
    Clos8 (r &&& ~~~comp g P) g ∧ (∀ i, (r &&& ~~~comp g P).getLsbD i = true → P + 1 ≤ i) ∧ (∃ k, 64 - unc (r &&& ~~~comp g P) < k ∧ (X ++ [comp g P]) ++ spl8 k (r &&& ~~~comp g P) = spl8 65 g) ∧ ∀ i, (comp g P).getLsbD i = true → r.getLsbD i = true := by
  have hP := get_lt h0
  have e1 : comp g P = sp8 r 65 (one P) := sp8_eq H.cl 65 (one P) fun i hi => by rw [one_get _ _ hP, decide_eq_true_eq] at hi; rw [hi]; exact h0
  rw [e1]
  have hc := comp8_closed h0
  have hself := comp8_self h0
  have hlow : low r = one P := low_of h0 fun j hj => by
    cases e : r.getLsbD j with
    | false => rfl
    | true => have := H.lo j e; omega
  refine ⟨closed8_diff H.cl hc, fun i hi => ?_, ?_, hc.sub⟩
  · rw [diff_at, Bool.and_eq_true, Bool.not_eq_true'] at hi
    have := H.lo i hi.1
    rcases Nat.eq_or_lt_of_le this with e | e
    · subst e; rw [hself] at hi; simp at hi
    · exact e
  · obtain ⟨k, hk, e⟩ := H.spl
    obtain ⟨k', rfl⟩ : ∃ k', k = k' + 1 := ⟨k - 1, by omega⟩
    refine ⟨k', ?_, ?_⟩
    · have : unc r < unc (r &&& ~~~sp8 r 65 (one P)) := unc_lt (fun i h => by rw [diff_at] at h; simp at h; exact h.1) hP (by rw [diff_at, hself]; simp) h0
      have := unc_le (r &&& ~~~sp8 r 65 (one P))
      omega
    · rw [← e]
      show _ = X ++ (if r = 0 then [] else sp8 r 65 (low r) :: spl8 k' (r &&& ~~~(sp8 r 65 (low r))))
      rw [if_neg (ne_of_get h0), hlow, List.append_assoc]
      rfl
theorem inB_or (s t : B) (x y : Int) : inB (s ||| t) x y = (inB s x y || inB t x y) := by
  rw [Bool.eq_iff_iff, Bool.or_eq_true, inB_iff, inB_iff, inB_iff, or_get, Bool.or_eq_true]
  constructor
  · rintro ⟨a, b, c, d, e | e⟩
    · exact .inl ⟨a, b, c, d, e⟩
    · exact .inr ⟨a, b, c, d, e⟩
  · rintro (⟨a, b, c, d, e⟩ | ⟨a, b, c, d, e⟩)
    · exact ⟨a, b, c, d, .inl e⟩
    · exact ⟨a, b, c, d, .inr e⟩
theorem HInv.bad {w h : Nat} {g r : B} {X : List B} {S : List Cel} {n P : Nat} (H : HInv w h g r X S n P) (h0 : r.getLsbD P = true) (ho : (outB w h g).getLsbD P = true) : HInv w h g (r &&& ~~~comp g P) (X ++ [comp g P]) S n (P + 1) := by
  obtain ⟨a, b, c, e⟩ := H.next h0
  refine ⟨a, b, c, H.nd, fun d => ?_, ?_⟩
  · rw [H.mem d]
    have : outB w h g ||| (g &&& ~~~r) = outB w h g ||| (g &&& ~~~(r &&& ~~~comp g P)) := B_ext fun i _ => by
      rw [or_get, or_get, diff_at, diff_at, diff_at]
      cases h1 : (comp g P).getLsbD i with
      | false => simp
      | true =>
        rw [out_comp ho h1]
        simp
    rw [this]
  · have hb : goodP w h (comp g P) = false := bad_iff.2 (out_iff.1 ho).2
    rw [List.filter_append, H.cnt]
    simp [hb]
theorem HInv.good {w h : Nat} {c g r : B} (G : Gap w h c g) {X : List B} {S N : List Cel} {n P : Nat} (H : HInv w h g r X S n P) (h0 : r.getLsbD P = true) (ho : (outB w h g).getLsbD P = false) (hN : N.Nodup) (hm : ∀ d : Cel, d ∈ N ↔ inB (comp g P) d.1 d.2 = true) : HInv w h g (r &&& ~~~comp g P) (X ++ [comp g P]) (S ++ N) (n + 1) (P + 1) := by
  obtain ⟨a, b, k, e⟩ := H.next h0
  have hg := H.cl.sub P h0
  refine ⟨a, b, k, ?_, fun d => ?_, ?_⟩
  · rw [List.nodup_append]
    refine ⟨H.nd, hN, fun x hx y hy exy => ?_⟩
    subst exy
    have hp := (hm x).1 hy
    obtain ⟨x0, x1, x2, x3⟩ := cel_pos hp
    have hgx := (comp8_closed hg).sub _ x2
    have hgx' : inB g x.1 x.2 = true := by
      have h := inB_cel (s := g) x1
      rw [x0] at h
      rw [h]; exact hgx
    rcases (H.mem x).1 hx with h1 | h1
    · rw [(gap_ext G hgx').2.1] at h1; simp at h1
    · have h2 := (cel_pos h1).2.2.1
      rw [or_get, diff_at, in_comp hg ho x2, e _ x2] at h2
      simp at h2
  · rw [List.mem_append, H.mem d, hm d, inB_or, inB_or, Bool.or_eq_true, Bool.or_eq_true]
    have key : inB (g &&& ~~~(r &&& ~~~comp g P)) d.1 d.2 = true ↔ inB (g &&& ~~~r) d.1 d.2 = true ∨ inB (comp g P) d.1 d.2 = true := by
      rw [inB_iff, inB_iff, inB_iff, diff_at, diff_at, diff_at]
      constructor
      · rintro ⟨q1, q2, q3, q4, q5⟩
        cases h1 : (comp g P).getLsbD (8 * d.2 + d.1).toNat with
        | true => exact .inr ⟨q1, q2, q3, q4, rfl⟩
        | false => rw [h1] at q5; simp at q5; exact .inl ⟨q1, q2, q3, q4, by rw [q5.1, q5.2]; rfl⟩
      · rintro (⟨q1, q2, q3, q4, q5⟩ | ⟨q1, q2, q3, q4, q5⟩)
        · rw [Bool.and_eq_true, Bool.not_eq_true'] at q5
          exact ⟨q1, q2, q3, q4, by rw [q5.1, q5.2]; rfl⟩
        · exact ⟨q1, q2, q3, q4, by rw [q5, (comp8_closed hg).sub _ q5]; simp⟩
    rw [key]
    constructor
    · rintro ((q | (q | q)) | q)
      · exact .inl q
      · exact .inr (.inl q)
      · exact .inr (.inr (.inl q))
      · exact .inr (.inr (.inr q))
    · rintro (q | (q | (q | q)))
      · exact .inl (.inl q)
      · exact .inl (.inr (.inl q))
      · exact .inl (.inr (.inr q))
      · exact .inr q
  · have hb : goodP w h (comp g P) = true := by
      rw [out_get, hg] at ho
      simpa using ho
    rw [List.filter_append, H.cnt]
    simp [hb]
    omega
theorem HInv.start {w h : Nat} {g : B} {N : List Cel} (hN : N.Nodup) (hm : ∀ d : Cel, d ∈ N ↔ Outer w h g d) : HInv w h g g [] N 1 0 := by
  refine ⟨⟨fun i h => h, fun i j _ h _ => h⟩, fun i _ => Nat.zero_le i, ⟨65, by have := unc_le g; omega, rfl⟩, hN, fun d => ?_, rfl⟩
  rw [hm d]
  have : g &&& ~~~g = 0 := B_zero fun i _ => by rw [diff_at]; cases g.getLsbD i <;> rfl
  rw [this]
  have e : outB w h g ||| 0 = outB w h g := B_ext fun i _ => by rw [or_get, zero_get, Bool.or_false]
  rw [e]
  rfl
theorem HInv.end {w h : Nat} {g r : B} {X : List B} {S : List Cel} {n P : Nat} (H : HInv w h g r X S n P) (h0 : ∀ i, g.getLsbD i = true → i < P) : n = 1 + holB w h g := by
  have hr : r = 0 := B_zero fun i _ => by
    cases e : r.getLsbD i with
    | false => rfl
    | true => have := H.lo i e; have := h0 i (H.cl.sub i e); omega
  obtain ⟨k, hk, e⟩ := H.spl
  obtain ⟨k', rfl⟩ : ∃ k', k = k' + 1 := ⟨k - 1, by omega⟩
  have : X = spl8 65 g := by
    rw [← e, hr]
    show X = X ++ (if (0 : B) = 0 then [] else _)
    rw [if_pos rfl, List.append_nil]
  rw [H.cnt, this]
  rfl
theorem nodup_map' (f : Cel → Nat) : ∀ {l : List Cel}, l.Nodup → (∀ x ∈ l, ∀ y ∈ l, f x = f y → x = y) → (l.map f).Nodup
  | [], _, _ => by simp
  | x :: l, hn, h => by
    rw [List.nodup_cons] at hn
    rw [List.map_cons, List.nodup_cons]
    refine ⟨fun hm => ?_, nodup_map' f hn.2 fun a ha b hb => h a (List.mem_cons_of_mem _ ha) b (List.mem_cons_of_mem _ hb)⟩
    obtain ⟨y, hy, e⟩ := List.mem_map.1 hm
    have := h y (List.mem_cons_of_mem _ hy) x (List.mem_cons_self ..) e
    subst this
    exact hn.1 hy
theorem ext_len {N : List Cel} (hn : N.Nodup) (hr : ∀ d ∈ N, -1 ≤ d.1 ∧ d.1 ≤ 8 ∧ -1 ≤ d.2 ∧ d.2 ≤ 8) : N.length ≤ 100 := by
  have h1 := nodup_map' (fun d => (10 * (d.2 + 1) + (d.1 + 1)).toNat) hn fun x hx y hy e => by
    have a := hr x hx
    have b := hr y hy
    have e' : (10 * (x.2 + 1) + (x.1 + 1)).toNat = (10 * (y.2 + 1) + (y.1 + 1)).toNat := e
    exact Prod.ext (by omega) (by omega)
  have := nodup_len (l' := List.range 100) h1 fun x hx => by
    obtain ⟨d, hd, rfl⟩ := List.mem_map.1 hx
    have a := hr d hd
    exact List.mem_range.2 (by show (10 * (d.2 + 1) + (d.1 + 1)).toNat < 100; omega)
  simpa using this
theorem HInv.len {w h : Nat} {g r : B} {X : List B} {S : List Cel} {n P : Nat} (H : HInv w h g r X S n P) (hw : w ≤ 8) (hh : h ≤ 8) : S.length ≤ 100 ∧ n ≤ 66 := by
  refine ⟨ext_len H.nd fun d hd => ?_, ?_⟩
  · rcases (H.mem d).1 hd with h1 | h1
    · have := of_decide_eq_true h1
      omega
    · have := (inB_iff _ _ _).1 h1
      omega
  · obtain ⟨k, _, e⟩ := H.spl
    have h1 := spl8_len 65 g
    rw [← e, List.length_append] at h1
    have h2 := List.length_filter_le (goodP w h) X
    have := H.cnt
    omega
structure BfsE (w h : Nat) (c : B) (Q : Cel → Prop) (N : List Cel) (i : Nat) : Prop where
  nd : N.Nodup
  ext : ∀ d ∈ N, extB w h c d = true
  sub : ∀ d ∈ N, Q d
  done : ∀ j, (hj : j < N.length) → j < i → ∀ d ∈ arE w h c N[j], d ∈ N
theorem BfsE.next {w h : Nat} {c : B} {Q : Cel → Prop} {N : List Cel} {i : Nat} (H : BfsE w h c Q N i) (hQ : ∀ d e, Q d → e ∈ arE w h c d → Q e) (hi : i < N.length) : BfsE w h c Q (addC N (arE w h c N[i])) (i + 1) := by
  obtain ⟨K, hK⟩ := addC_pre (arE w h c N[i]) N
  refine ⟨addC_nodup _ _ H.nd, fun d hd => ?_, fun d hd => ?_, fun j hj hji d hd => ?_⟩
  · rcases (addC_mem _ _ d).1 hd with h | h
    · exact H.ext d h
    · exact (mem_arE.1 h).2
  · rcases (addC_mem _ _ d).1 hd with h | h
    · exact H.sub d h
    · exact hQ _ _ (H.sub _ (List.getElem_mem hi)) h
  · rw [addC_mem]
    have hjN : j < N.length := by omega
    have e : (addC N (arE w h c N[i]))[j] = N[j] := by simp only [hK]; exact List.getElem_append_left hjN
    rw [e] at hd
    by_cases h : j = i
    · subst h; exact .inr hd
    · exact .inl (H.done j hjN (by omega) d hd)
theorem ext_range {w h : Nat} {c : B} {d : Cel} (hw : w ≤ 8) (hh : h ≤ 8) (hd : extB w h c d = true) : -1 ≤ d.1 ∧ d.1 ≤ 8 ∧ -1 ≤ d.2 ∧ d.2 ≤ 8 := by
  unfold extB at hd
  rw [Bool.and_eq_true, decide_eq_true_eq] at hd
  omega
theorem BfsE.len {w h : Nat} {c : B} {Q : Cel → Prop} {N : List Cel} {i : Nat} (H : BfsE w h c Q N i) (hw : w ≤ 8) (hh : h ≤ 8) : N.length ≤ 100 :=
  ext_len H.nd fun d hd => ext_range hw hh (H.ext d hd)
theorem BfsE.clos {w h : Nat} {c : B} {Q : Cel → Prop} {N : List Cel} (H : BfsE w h c Q N N.length) : ClosL w h c N := fun d hd e he => by
  obtain ⟨k, hk, ek⟩ := List.getElem_of_mem hd
  exact H.done k hk hk e (by rw [ek]; exact he)
end Go.AM
namespace Go.AM
open Go Go.Proofs
theorem i_leq (a b : Int) : mbin E .leq 3 (vi a) (vi b) = some (.bool (decide (a ≤ b))) := rfl
theorem geqm (a : Int) : mbin E .geq 3 (vi a) (.int .i64 (-1)) = some (.bool (decide (-1 ≤ a))) := i_geq a (-1)
theorem rem3 (a : Int) : mbin E .rem 3 (vi a) (.int .i64 3) = some (vi (a.tmod 3)) := rfl
theorem quo3 (a : Int) : mbin E .quo 3 (vi a) (.int .i64 3) = some (vi (wr (a.tdiv 3))) := rfl
theorem rem9 (j : Nat) (h : j < 9) : mbin E .rem 3 (vi j) (.int .i64 3) = some (vi ((j % 3 : Nat) : Int)) := by
  rw [rem3, Int.tmod_eq_emod_of_nonneg (by omega)]
  congr 2
theorem quo9 (j : Nat) (h : j < 9) : mbin E .quo 3 (vi j) (.int .i64 3) = some (vi ((j / 3 : Nat) : Int)) := by
  rw [quo3, Int.tdiv_eq_ediv_of_nonneg (by omega), wr_id (by omega) (by omega)]
  congr 2
structure Cal31 (call : CallF) (x0 : Value) (l : List ByteArray) (c : B) : Prop where
  c47 : ∀ base m x y, Strs m x0 l → call base 47 [x0, vi x, vi y] m = some (.ret (.bool (inB c x y)), m)
  c49 : ∀ base m v N d, Cels m v N → N.length ≤ 900 → call base 49 [v, .agg #[vi d.1, vi d.2]] m = some (.ret (.bool (decide (d ∈ N))), m)
theorem loop31c (call : CallF) (fuel base b : Nat) (hbb : base ≤ b) (kx : Value → Value → Value → Value → Value → Value → Value → M → Res2) {p : Nat} {l : List ByteArray} {w h : Nat} {c g : B} (hrd : readB l = some (w, h, c, g)) (C : Cal31 call (sl p l.length) l c) (x4 x5 x6 x7 : Value) {i : Nat} {e : Cel} (he : -1 ≤ e.1 ∧ e.1 ≤ 8 ∧ -1 ≤ e.2 ∧ e.2 ≤ 8) {m0 : M} (hb0 : m0.length ≤ b) (hv0 : Strs m0 (sl p l.length) l) :
    ∀ (n j : Nat) (v9 : Value) (m : M) (N : List Cel), j ≤ 9 → 9 < n + j → b ≤ m.length → Keeps m0.length m0 m → N[i]? = some e → N.length + 9 ≤ 800 + j → GX b m v9 (csV N) N.length →
      ∃ v' m', r31_L6 call fuel base kx n (sl p l.length) x4 x5 x6 x7 v9 (vi i) (vi j) m = kx (sl p l.length) x4 x5 x6 x7 v' (vi i) m' ∧ GX b m' v' (csV (addC N (((nine e).drop j).filter (extB w h c)))) (addC N (((nine e).drop j).filter (extB w h c))).length ∧ Keeps b m m'
  | 0, j, v9, m, N, hj, hn, _, _, _, _, _ => by omega
  | n + 1, j, v9, m, N, hj, hn, hbm, hk, hN, hlen, hg => by
    have H := readB_reg hrd
    have hl := H.len
    have h1 := H.h1
    have hv := hv0.keeps hk
    obtain ⟨p', row, ep, hpm, hrow⟩ := strs_sl H hv
    have := sl_inj ep
    subst this
    have h0 : 0 < l.length := by omega
    have nin : (nine e).length = 9 := by simp [nine]
    obtain ⟨r, ex, g1, g2, rfl, g4, g5⟩ := id hg
    rw [r31_L6_s, show (.int .i64 9 : Value) = vi ((9 : Nat) : Int) from rfl, lss_nat, k1s]
    by_cases hlt : j < 9
    · have hi := (List.getElem?_eq_some_iff.1 hN).1
      have hNe : N[i] = e := (List.getElem?_eq_some_iff.1 hN).2
      obtain ⟨z0, z1⟩ := cels_cell g4 (rfl : (rowz 2 ex (csV N)).cells = csV N) hi
      rw [hNe] at z0 z1
      have hdrop : (nine e).drop j = nineC e j :: (nine e).drop (j + 1) := by
        rw [List.drop_eq_getElem_cons (by omega)]
        congr 1
        simp [nine]
      have hd1 : -2 ≤ (nineC e j).1 ∧ (nineC e j).1 ≤ 9 := by unfold nineC; simp only; omega
      have hd2 : -2 ≤ (nineC e j).2 ∧ (nineC e j).2 ≤ 9 := by unfold nineC; simp only; omega
      have a1 : mbin E .add 3 (vi e.1) (vi ((j % 3 : Nat) : Int)) = some (vi (e.1 + ((j % 3 : Nat) : Int))) := addi _ _ (by omega) (by omega)
      have a2 : mbin E .sub 3 (vi (e.1 + ((j % 3 : Nat) : Int))) (.int .i64 1) = some (vi (nineC e j).1) := subi _ 1 (by omega) (by omega)
      have b1 : mbin E .add 3 (vi e.2) (vi ((j / 3 : Nat) : Int)) = some (vi (e.2 + ((j / 3 : Nat) : Int))) := addi _ _ (by omega) (by omega)
      have b2 : mbin E .sub 3 (vi (e.2 + ((j / 3 : Nat) : Int))) (.int .i64 1) = some (vi (nineC e j).2) := subi _ 1 (by omega) (by omega)
      rw [decide_eq_true hlt, kbt, ix36 r _ _ i hi, k1s, (ff68 r (i * 2)).1, k1s, ld3c, z0, k1s, rem9 j hlt, k1s, a1, k1s, a2, k1s, k1s, (ff68 r (i * 2)).2, k1s, ld3c, z1, k1s, quo9 j hlt, k1s, b1, k1s, b2, k1s, b68, k1s, hdrop]
      generalize nineC e j = d at hd1 hd2 ⊢
      have hst := st68 base m (Nat.le_trans hbb hbm) [vi 0, vi 0] rfl d
      rw [al68, k2s, hst, kss]
      have hka : Keeps m.length m (m ++ [cellR (cV d)]) := Keeps.push _ _ (Nat.le_refl _) _
      have qb : (m ++ [cellR (cV d)])[m.length]? = some (cellR [vi d.1, vi d.2]) := by simp [cV]
      generalize m ++ [cellR (cV d)] = m1 at hka qb ⊢
      have q0 : mcell m1 m.length 0 = some (vi d.1) := box_cell qb 0 _ rfl
      have q1 : mcell m1 m.length 1 = some (vi d.2) := box_cell qb 1 _ rfl
      have hf0 : mfieldAddr E.P 68 (pt m.length 0) 0 = some (pt m.length 0) := (ff68 m.length 0).1
      have hf1 : mfieldAddr E.P 68 (pt m.length 0) 1 = some (pt m.length 1) := (ff68 m.length 0).2
      have hg1 := hg.keep hka
      have hk1 := hk.trans (hka.mono hk.1)
      have hv1 := hv.keeps hka
      have hpm1 : m1[p]? = some row := (hka.2 p (List.getElem?_eq_some_iff.1 hpm).1).trans hpm
      have hld : xload E.P m1 9 (pt p 0) = some (.string l[0]) := strs_ld hpm1 hrow h0
      have hix : mindexAddr E.P 22 (sl p l.length) (.int .i64 0) = some (pt p 0) := ix22 p l.length l.length 0 h0
      have hs0 : l[0].size = w := H.sz _ (List.getElem_mem h0)
      have skip : addC N ((d :: (nine e).drop (j + 1)).filter (extB w h c)) = addC N (((nine e).drop (j + 1)).filter (extB w h c)) → ∃ v' m', (k1n (mbin E .add 3 (vi j) (.int .i64 1)) fun v55 => r31_L6 call fuel base kx n (sl p l.length) x4 x5 x6 x7 (sl r N.length) (vi i) v55 m1) = kx (sl p l.length) x4 x5 x6 x7 v' (vi i) m' ∧ GX b m' v' (csV (addC N ((d :: (nine e).drop (j + 1)).filter (extB w h c)))) (addC N ((d :: (nine e).drop (j + 1)).filter (extB w h c))).length ∧ Keeps b m m' := fun hs => by
        obtain ⟨v', m', e3, g3, k3⟩ := loop31c call fuel base b hbb kx hrd C x4 x5 x6 x7 he hb0 hv0 n (j + 1) (sl r N.length) m1 N (by omega) (by omega) (Nat.le_trans hbm hka.1) hk1 hN (by omega) hg1
        rw [add1 j (by omega), k1s, hs]
        exact ⟨v', m', e3, g3, (hka.mono hbm).trans k3⟩
      have noext : extB w h c d = false → addC N ((d :: (nine e).drop (j + 1)).filter (extB w h c)) = addC N (((nine e).drop (j + 1)).filter (extB w h c)) := fun hx => by
        rw [List.filter_cons, hx, if_neg (by simp)]
      have out : ¬ (-1 ≤ d.1 ∧ d.1 ≤ w ∧ -1 ≤ d.2 ∧ d.2 ≤ h) → extB w h c d = false := fun hx => by
        unfold extB
        rw [decide_eq_false hx]
        rfl
      rw [hf0, k1s, ld3c, q0, k1s, geqm, k1s]
      by_cases c1 : ¬ (-1 ≤ d.1)
      · rw [decide_eq_false c1, kbf]
        exact skip (noext (out (by omega)))
      replace c1 := Decidable.not_not.1 c1
      rw [decide_eq_true c1, kbt, k1s, ld3c, q0, k1s, hix, k1s, hld, k1s, len9, k2s, hs0, i_leq, k1s]
      by_cases c2 : ¬ (d.1 ≤ (w : Int))
      · rw [decide_eq_false c2, kbf]
        exact skip (noext (out (by omega)))
      replace c2 := Decidable.not_not.1 c2
      rw [decide_eq_true c2, kbt, hf1, k1s, ld3c, q1, k1s, geqm, k1s]
      by_cases c3 : ¬ (-1 ≤ d.2)
      · rw [decide_eq_false c3, kbf]
        exact skip (noext (out (by omega)))
      replace c3 := Decidable.not_not.1 c3
      rw [decide_eq_true c3, kbt, k1s, ld3c, q1, k1s, len22, k2s, i_leq, k1s]
      by_cases c4 : ¬ (d.2 ≤ (l.length : Int))
      · rw [decide_eq_false c4, kbf]
        exact skip (noext (out (by omega)))
      replace c4 := Decidable.not_not.1 c4
      rw [decide_eq_true c4, kbt, k1s, ld3c, q0, k1s, k1s, ld3c, q1, k1s, C.c47 _ _ _ _ hv1, kB_same, kcs, mnot_b, k1s]
      have hex : extB w h c d = !inB c d.1 d.2 := by
        unfold extB
        rw [decide_eq_true (by omega), Bool.true_and]
      cases c5 : inB c d.1 d.2 with
      | true =>
        rw [Bool.not_true, kbf]
        exact skip (noext (by rw [hex, c5]; rfl))
      | false =>
        have hex' : extB w h c d = true := by rw [hex, c5]; rfl
        rw [Bool.not_false, kbt, ldb68 qb, k1s, C.c49 _ _ _ N _ hg1.cels (by omega), kB_same, kcs, mnot_b, k1s]
        by_cases hd : d ∈ N
        · rw [decide_eq_true hd, Bool.not_true, kbf]
          refine skip ?_
          rw [List.filter_cons, hex', if_pos rfl]
          show (if d ∈ N then _ else _) = _
          rw [if_pos hd]
        · obtain ⟨v1, m2, e1, g1', k1', f1, new1⟩ := gx36 hg1 (by omega) hbb (Nat.le_trans hbm hka.1) d.1 d.2
          rw [decide_eq_false hd, Bool.not_false, kbt, ldb68 qb, k1s, e1, add1 j (by omega), k1s]
          obtain ⟨v', m', e3, g3, k3⟩ := loop31c call fuel base b hbb kx hrd C x4 x5 x6 x7 he hb0 hv0 n (j + 1) v1 m2 (N ++ [d]) (by omega) (by omega) (Nat.le_trans (Nat.le_trans hbm hka.1) k1'.1) (hk1.trans (k1'.mono hb0)) (by rw [List.getElem?_append_left hi]; exact hN) (by rw [List.length_append]; simp only [List.length_cons, List.length_nil]; omega) (by rw [csV_snoc, List.length_append]; exact g1')
          have hs : addC N ((d :: (nine e).drop (j + 1)).filter (extB w h c)) = addC (N ++ [d]) (((nine e).drop (j + 1)).filter (extB w h c)) := by
            rw [List.filter_cons, hex', if_pos rfl]
            show (if d ∈ N then _ else _) = _
            rw [if_neg hd]
          rw [hs]
          exact ⟨v', m', e3, g3, ((hka.mono hbm).trans k1').trans k3⟩
    · have : j = 9 := by omega
      subst this
      rw [decide_eq_false hlt, kbf, List.drop_eq_nil_of_le (by omega)]
      exact ⟨_, m, rfl, hg, Keeps.refl _ _⟩
theorem loop31b (call : CallF) (fuel base : Nat) (hfu : 200 ≤ fuel) (kx : Value → Value → Value → Value → Value → Value → M → Res2) {p : Nat} {l : List ByteArray} {w h : Nat} {c g : B} (hrd : readB l = some (w, h, c, g)) (C : Cal31 call (sl p l.length) l c) {Q : Cel → Prop} (hQ : ∀ d e, Q d → e ∈ arE w h c d → Q e) (x4 x5 x6 x7 : Value) {m0 : M} (hbb : base ≤ m0.length) (hv0 : Strs m0 (sl p l.length) l) :
    ∀ (n i : Nat) (v9 : Value) (m : M) (N : List Cel), i ≤ N.length → 110 < n + i → Keeps m0.length m0 m → BfsE w h c Q N i → GX m0.length m v9 (csV N) N.length →
      ∃ v' m' N', r31_L4 call fuel base kx n (sl p l.length) x4 x5 x6 x7 v9 (vi i) m = kx (sl p l.length) x4 x5 x6 x7 v' m' ∧ GX m0.length m' v' (csV N') N'.length ∧ BfsE w h c Q N' N'.length ∧ (∀ d ∈ N, d ∈ N') ∧ Keeps m0.length m0 m'
  | 0, i, v9, m, N, hi, hn, hk, hB, hg => by
    have H := readB_reg hrd
    have := hB.len H.w8 H.h8
    omega
  | n + 1, i, v9, m, N, hi, hn, hk, hB, hg => by
    have H := readB_reg hrd
    have hlN := hB.len H.w8 H.h8
    have hbm := hk.1
    obtain ⟨r, ex, g1, g2, rfl, g4, g5⟩ := id hg
    rw [r31_L4_s, len36, k2s, lss_nat, k1s]
    by_cases hlt : i < N.length
    · have hr := ext_range H.w8 H.h8 (hB.ext _ (List.getElem_mem hlt))
      have hB' := hB.next hQ hlt
      obtain ⟨K, hK⟩ := addC_pre (arE w h c N[i]) N
      obtain ⟨v2, m2, e3, g3, k3⟩ := loop31c call fuel base m0.length hbb (fun y0_71 y4_72 y5_73 y6_74 y7_75 y9_76 y10_77 m => (k1n (mbin E .add 3 y10_77 (.int .i64 1)) fun v51_78 => (r31_L4 call fuel base kx n y0_71 y4_72 y5_73 y6_74 y7_75 y9_76 v51_78 m))) hrd C x4 x5 x6 x7 (i := i) (e := N[i]) hr (Nat.le_refl _) hv0 fuel 0 (sl r N.length) m N (by omega) (by omega) hbm hk (List.getElem?_eq_getElem hlt) (by omega) hg
      rw [List.drop_zero] at g3
      rw [decide_eq_true hlt, kbt, show (.int .i64 0 : Value) = vi ((0 : Nat) : Int) from rfl, e3, add1 i (by omega), k1s]
      obtain ⟨v', m', N', e, a1, a2, a3, a4⟩ := loop31b call fuel base hfu kx hrd C hQ x4 x5 x6 x7 hbb hv0 n (i + 1) v2 m2 (addC N (arE w h c N[i])) (by rw [hK, List.length_append]; omega) (by omega) (hk.trans k3) hB' g3
      exact ⟨v', m', N', e, a1, a2, fun d hd => a3 d ((addC_mem _ _ d).2 (.inl hd)), a4⟩
    · have : i = N.length := by omega
      subst this
      rw [decide_eq_false hlt, kbf]
      exact ⟨_, m, N, rfl, hg, hB, fun d h => h, hk⟩
end Go.AM
namespace Go.AM
open Go Go.Proofs
def pos31 (w h b a : Nat) : Nat := if b = 0 then 0 else if b ≤ h then 8 * (b - 1) + min (a - 1) w else 8 * h
def St31 (w h : Nat) (g : B) (b a : Nat) (S : List Cel) (n : Nat) : Prop := (∃ r X, HInv w h g r X S n (pos31 w h b a)) ∨ (S = [] ∧ n = 0 ∧ a = 0 ∧ b = 0)
theorem St31.len {w h : Nat} {g : B} {b a : Nat} {S : List Cel} {n : Nat} (H : St31 w h g b a S n) (hw : w ≤ 8) (hh : h ≤ 8) : S.length ≤ 100 ∧ n ≤ 66 := by
  rcases H with ⟨r, X, H⟩ | ⟨h1, h2, _⟩
  · exact H.len hw hh
  · rw [h1, h2]; simp
theorem pos_in {w h a b : Nat} (ha1 : 1 ≤ a) (ha : a ≤ w) (hb1 : 1 ≤ b) (hb : b ≤ h) : pos31 w h b a = 8 * (b - 1) + (a - 1) ∧ pos31 w h b (a + 1) = 8 * (b - 1) + (a - 1) + 1 := by
  unfold pos31
  rw [if_neg (by omega), if_pos hb, if_neg (by omega), if_pos hb]
  omega
theorem pos_out {w h a b : Nat} (h1 : ¬ (1 ≤ a ∧ a ≤ w ∧ 1 ≤ b ∧ b ≤ h)) : pos31 w h b a = pos31 w h b (a + 1) := by
  unfold pos31
  by_cases hb : b = 0
  · rw [if_pos hb, if_pos hb]
  · rw [if_neg hb, if_neg hb]
    by_cases hb2 : b ≤ h
    · rw [if_pos hb2, if_pos hb2]
      omega
    · rw [if_neg hb2, if_neg hb2]
def cell31 (a b : Nat) : Cel := ((a : Int) - 1, (b : Int) - 1)
theorem cell_in {w h a b : Nat} (ha1 : 1 ≤ a) (ha : a ≤ w) (hb1 : 1 ≤ b) (hw : w ≤ 8) : cell31 a b = cel (8 * (b - 1) + (a - 1)) := by
  unfold cell31 cel
  refine Prod.ext ?_ ?_
  · simp only; omega
  · simp only; omega
/-- A cell of the region, or one that was seen: the search goes on. -/
theorem St31.go {w h : Nat} {c g : B} (G : Gap w h c g) {a b : Nat} {S : List Cel} {n : Nat} (H : St31 w h g b a S n) (ha : a ≤ w + 1) (hb : b ≤ h + 1) (hx : inB c (cell31 a b).1 (cell31 a b).2 = true ∨ cell31 a b ∈ S) : St31 w h g b (a + 1) S n := by
  have w8 := G.w8
  have h8 := G.h8
  rcases H with ⟨r, X, H⟩ | ⟨h1, h2, h3, h4⟩
  · left
    by_cases hi : 1 ≤ a ∧ a ≤ w ∧ 1 ≤ b ∧ b ≤ h
    · obtain ⟨p1, p2⟩ := pos_in hi.1 hi.2.1 hi.2.2.1 hi.2.2.2
      have hc := cell_in (h := h) hi.1 hi.2.1 hi.2.2.1 w8
      rw [p1] at H
      rw [p2]
      rw [hc] at hx
      generalize hP : 8 * (b - 1) + (a - 1) = P at H hx hc ⊢
      have hP6 : P < 64 := by omega
      cases hr : r.getLsbD P with
      | false => exact ⟨r, X, H.skip hr⟩
      | true =>
        have hg := H.cl.sub P hr
        have hgi : inB g (cel P).1 (cel P).2 = true := by rw [inB_cel hP6]; exact hg
        refine ⟨_, _, H.bad hr ?_⟩
        rcases hx with h1 | h1
        · have := (gap_ext G hgi).1
          unfold extB at this
          rw [h1] at this
          simp at this
        · rcases (H.mem _).1 h1 with h2 | h2
          · rw [(gap_ext G hgi).2.1] at h2; simp at h2
          · rw [inB_cel hP6, or_get, diff_at, hr] at h2
            simpa using h2
    · rw [← pos_out hi]
      exact ⟨r, X, H⟩
  · exfalso
    subst h3
    subst h4
    rcases hx with h5 | h5
    · have := (inB_iff _ _ _).1 h5
      have h6 : (cell31 0 0).1 = -1 := rfl
      omega
    · rw [h1] at h5; simp at h5
/-- A new cell: what a search from it will find. -/
theorem St31.new {w h : Nat} {c g : B} (G : Gap w h c g) {a b : Nat} {S : List Cel} {n : Nat} (H : St31 w h g b a S n) (ha : a ≤ w + 1) (hb : b ≤ h + 1) (h1 : inB c (cell31 a b).1 (cell31 a b).2 = false) (h2 : cell31 a b ∉ S) :
    extB w h c (cell31 a b) = true ∧ ∃ Q : Cel → Prop, (∀ d e, Q d → e ∈ arE w h c d → Q e) ∧ Q (cell31 a b) ∧ ∀ N : List Cel, N.Nodup → (∀ d ∈ N, Q d) → ClosL w h c N → cell31 a b ∈ N → St31 w h g b (a + 1) (S ++ N) (n + 1) := by
  have w8 := G.w8
  have h8 := G.h8
  have hext : extB w h c (cell31 a b) = true := by
    unfold extB
    rw [h1, Bool.and_eq_true, decide_eq_true_eq]
    refine ⟨?_, rfl⟩
    unfold cell31
    simp only
    omega
  refine ⟨hext, ?_⟩
  rcases H with ⟨r, X, H⟩ | ⟨q1, q2, q3, q4⟩
  · have hnb : bord w h (cell31 a b) = false := by
      cases e : bord w h (cell31 a b) with
      | false => rfl
      | true => exact absurd ((H.mem _).2 (.inl e)) h2
    have hg : inB g (cell31 a b).1 (cell31 a b).2 = true := by
      rcases ext_gap G hext with e | e
      · rw [hnb] at e; simp at e
      · exact e
    have hi : 1 ≤ a ∧ a ≤ w ∧ 1 ≤ b ∧ b ≤ h := by
      have := (gap_ext G hg).2.2
      unfold cell31 at this
      simp only at this
      omega
    obtain ⟨p1, p2⟩ := pos_in hi.1 hi.2.1 hi.2.2.1 hi.2.2.2
    have hc := cell_in (h := h) hi.1 hi.2.1 hi.2.2.1 w8
    rw [p1] at H
    rw [hc] at hg h2 ⊢
    have hP6 : 8 * (b - 1) + (a - 1) < 64 := by omega
    generalize 8 * (b - 1) + (a - 1) = P at H h2 hg hP6 p2 ⊢
    rw [inB_cel hP6] at hg
    have hno : (outB w h g ||| (g &&& ~~~r)).getLsbD P = false := by
      cases e : (outB w h g ||| (g &&& ~~~r)).getLsbD P with
      | false => rfl
      | true => exact absurd ((H.mem _).2 (.inr (by rw [inB_cel hP6]; exact e))) h2
    rw [or_get, diff_at, hg, Bool.or_eq_false_iff] at hno
    have hr : r.getLsbD P = true := by simpa using hno.2
    refine ⟨fun d => inB (comp g P) d.1 d.2 = true, fun d e hd he => inner_closed G hg hno.1 hd he, by show inB (comp g P) (cel P).1 (cel P).2 = true; rw [inB_cel hP6]; exact comp8_self hg, fun N hN hQ hC hs => .inl ⟨r &&& ~~~comp g P, X ++ [comp g P], ?_⟩⟩
    rw [p2]
    exact H.good G hr hno.1 hN fun d => ⟨hQ d, fun hd => comp_in G hC hg hs hd⟩
  · subst q3
    subst q4
    refine ⟨Outer w h g, fun d e hd he => outer_closed G hd he, .inl (decide_eq_true ?_), fun N hN hQ hC hs => .inl ⟨g, [], ?_⟩⟩
    · unfold cell31
      dsimp only
      omega
    · rw [q1, q2, List.nil_append]
      exact HInv.start hN fun d => ⟨hQ d, fun hd => outer_in G hC hs hd⟩
theorem loop31x (call : CallF) (fuel base : Nat) (hfu : 200 ≤ fuel) (kp : Value → M → Res2) (kx : Value → Value → Value → Value → M → Res2) {p : Nat} {l : List ByteArray} {w h : Nat} {c g : B} (hrd : readB l = some (w, h, c, g)) (G : Gap w h c g) (C : Cal31 call (sl p l.length) l c) {m0 : M} (hbb : base ≤ m0.length) (hv0 : Strs m0 (sl p l.length) l) {b : Nat} (hb : b ≤ h + 1) :
    ∀ (n a : Nat) (S : List Cel) (k : Nat) (v4 : Value) (m : M), a ≤ w + 2 → w + 2 < n + a → Keeps m0.length m0 m → Grow 2 m0.length m v4 (csV S) S.length → St31 w h g b a S k →
      ∃ (v4' : Value) (m' : M) (S' : List Cel) (k' : Nat), r31_L2 call fuel base kp kx n (sl p l.length) v4 (vi k) (vi ((b : Int) - 1)) (vi ((a : Int) - 1)) m = kx (sl p l.length) v4' (vi k') (vi ((b : Int) - 1)) m' ∧ Keeps m0.length m0 m' ∧ Grow 2 m0.length m' v4' (csV S') S'.length ∧ St31 w h g b (w + 2) S' k'
  | 0, a, S, k, v4, m, ha, hn, _, _, _ => by omega
  | n + 1, a, S, k, v4, m, ha, hn, hk, hg, hS => by
    have H := readB_reg hrd
    have hlen := H.len
    have h1 := H.h1
    have w8 := H.w8
    have h8 := H.h8
    have hvm := hv0.keeps hk
    obtain ⟨p', row, ep, hpm, hrow⟩ := strs_sl H hvm
    have := sl_inj ep
    subst this
    have h0 : 0 < l.length := by omega
    have hix : mindexAddr E.P 22 (sl p l.length) (.int .i64 0) = some (pt p 0) := ix22 p l.length l.length 0 h0
    rw [r31_L2_s, hix, k1s, strs_ld hpm hrow h0, k1s, len9, k2s, H.sz _ (List.getElem_mem h0), i_leq, k1s]
    obtain ⟨hS1, hk1⟩ := hS.len w8 h8
    by_cases hlt : a ≤ w + 1
    · have hnx : mbin E .add 3 (vi ((a : Int) - 1)) (.int .i64 1) = some (vi (((a + 1 : Nat) : Int) - 1)) := by
        rw [show ((a + 1 : Nat) : Int) - 1 = (a : Int) - 1 + 1 by omega]
        exact addi _ 1 (by omega) (by omega)
      have hst := st68 base m (Nat.le_trans hbb hk.1) [vi 0, vi 0] rfl (cell31 a b)
      have hka : Keeps m.length m (m ++ [cellR (cV (cell31 a b))]) := Keeps.push _ _ (Nat.le_refl _) _
      have qb : (m ++ [cellR (cV (cell31 a b))])[m.length]? = some (cellR [vi (cell31 a b).1, vi (cell31 a b).2]) := by simp [cV]
      have hst' : xstore E.P base (m ++ [cellR [vi 0, vi 0]]) 68 (pt m.length 0) (.agg #[vi ((a : Int) - 1), vi ((b : Int) - 1)]) = some (m ++ [cellR (cV (cell31 a b))]) := hst
      rw [decide_eq_true (by omega), kbt, b68, k1s, al68, k2s, hst', kss]
      generalize m ++ [cellR (cV (cell31 a b))] = m1 at hka qb ⊢
      have hk' := hk.trans (hka.mono hk.1)
      have hv1 := hvm.keeps hka
      have hg1 := hg.keep hka
      have go : St31 w h g b (a + 1) S k → ∃ (v4' : Value) (m' : M) (S' : List Cel) (k' : Nat), (k1n (mbin E .add 3 (vi ((a : Int) - 1)) (.int .i64 1)) fun v29 => r31_L2 call fuel base kp kx n (sl p l.length) v4 (vi k) (vi ((b : Int) - 1)) v29 m1) = kx (sl p l.length) v4' (vi k') (vi ((b : Int) - 1)) m' ∧ Keeps m0.length m0 m' ∧ Grow 2 m0.length m' v4' (csV S') S'.length ∧ St31 w h g b (w + 2) S' k' := fun hS' => by
        rw [hnx, k1s]
        exact loop31x call fuel base hfu kp kx hrd G C hbb hv0 hb n (a + 1) S k v4 m1 (by omega) (by omega) hk' hg1 hS'
      have e47 : call base 47 [sl p l.length, vi ((a : Int) - 1), vi ((b : Int) - 1)] m1 = some (.ret (.bool (inB c (cell31 a b).1 (cell31 a b).2)), m1) := C.c47 base m1 _ _ hv1
      rw [e47, kcs]
      cases hin : inB c (cell31 a b).1 (cell31 a b).2 with
      | true =>
        rw [kbt]
        exact go (hS.go G hlt hb (.inl hin))
      | false =>
        rw [kbf, ldb68 qb, k1s, C.c49 base m1 v4 S (cell31 a b) hg1.cels (by omega), kcs]
        by_cases hd : cell31 a b ∈ S
        · rw [decide_eq_true hd, kbt]
          exact go (hS.go G hlt hb (.inr hd))
        · obtain ⟨hext, Q, hQ, hQ0, hfin⟩ := hS.new G hlt hb hin hd
          have hk11 : Keeps m1.length m1 (m1 ++ [rowz 2 true [vi (cell31 a b).1, vi (cell31 a b).2]]) := Keeps.push _ _ (Nat.le_refl _) _
          rw [decide_eq_false hd, kbf, add1 k (by omega), k1s, ldb68 qb, k1s, gb36, k2s, show (.int .i64 0 : Value) = vi ((0 : Nat) : Int) from rfl]
          obtain ⟨v9, m2, N, eb, gN, bN, cN, kN⟩ := loop31b call fuel base hfu (fun y0_79 y4_80 y5_81 y6_82 y7_83 y9_84 m => (k2 (vcalln E.P base m .append [36, 36] [y4_80, y9_84]) fun v120_85 m => (k1n (mbin E .add 3 y7_83 (.int .i64 1)) fun v29_86 => (r31_L2 call fuel base kp kx n y0_79 v120_85 y5_81 y6_82 v29_86 m)))) hrd C hQ v4 (vi ((k + 1 : Nat) : Int)) (vi ((b : Int) - 1)) (vi ((a : Int) - 1)) (m0 := m1) (Nat.le_trans hbb hk'.1) hv1 fuel 0 (sl m1.length 1) (m1 ++ [rowz 2 true [vi (cell31 a b).1, vi (cell31 a b).2]]) [cell31 a b] (by omega) (by omega) hk11 ⟨by simp, fun d hd => by
            rw [List.mem_singleton] at hd
            subst hd
            exact hext, fun d hd => by
            rw [List.mem_singleton] at hd
            subst hd
            exact hQ0, fun j _ hj => by omega⟩ ⟨m1.length, true, by simp, Nat.le_refl _, rfl, by simp [csV, cV], rfl⟩
          have hin' := cN _ (List.mem_singleton.2 rfl)
          have hN1 : 1 ≤ N.length := List.length_pos_of_mem hin'
          have hlN := bN.len w8 h8
          obtain ⟨v4', m3, ea, g4', k3, l3, fix3, fre3⟩ := appC (hg1.keep kN) gN.cels hN1 (by omega) (by omega) hbb (Nat.le_trans hk'.1 kN.1)
          rw [eb, ea, k2s, hnx, k1s]
          exact loop31x call fuel base hfu kp kx hrd G C hbb hv0 hb n (a + 1) (S ++ N) (k + 1) v4' m3 (by omega) (by omega) ((hk'.trans (kN.mono hk'.1)).trans k3) g4' (hfin N bN.nd bN.sub bN.clos hin')
    · have : a = w + 2 := by omega
      subst this
      rw [decide_eq_false (by omega), kbf]
      exact ⟨v4, m, S, k, rfl, hk, hg, hS⟩
theorem St31.row {w h : Nat} {c g : B} (G : Gap w h c g) {b : Nat} {S : List Cel} {n : Nat} (H : St31 w h g b (w + 2) S n) (hb : b ≤ h + 1) : St31 w h g (b + 1) 0 S n := by
  have h1 := G.h1
  rcases H with ⟨r, X, H⟩ | ⟨_, _, h3, _⟩
  · refine .inl ⟨r, X, H.jump fun i hi hle => ?_⟩
    have hgi := G.gap i (get_lt hi)
    rw [hi] at hgi
    have hgi' := hgi.symm
    rw [Bool.and_eq_true, Bool.and_eq_true, decide_eq_true_eq, decide_eq_true_eq] at hgi'
    unfold pos31 at hle ⊢
    rw [if_neg (by omega)]
    by_cases h0 : b = 0
    · rw [if_pos (by omega)]; omega
    · rw [if_neg h0] at hle
      by_cases h2 : b ≤ h
      · rw [if_pos h2] at hle
        by_cases h5 : b + 1 ≤ h
        · rw [if_pos h5]; omega
        · rw [if_neg h5]; omega
      · rw [if_neg h2] at hle
        omega
  · omega
theorem loop31 (call : CallF) (fuel base : Nat) (hfu : 200 ≤ fuel) (kp : Value → M → Res2) (kx : Value → M → Res2) {p : Nat} {l : List ByteArray} {w h : Nat} {c g : B} (hrd : readB l = some (w, h, c, g)) (G : Gap w h c g) (C : Cal31 call (sl p l.length) l c) {m0 : M} (hbb : base ≤ m0.length) (hv0 : Strs m0 (sl p l.length) l) :
    ∀ (n b : Nat) (S : List Cel) (k : Nat) (v4 : Value) (m : M), b ≤ h + 2 → h + 2 < n + b → Keeps m0.length m0 m → Grow 2 m0.length m v4 (csV S) S.length → St31 w h g b 0 S k →
      ∃ m', r31_L0 call fuel base kp kx n (sl p l.length) v4 (vi k) (vi ((b : Int) - 1)) m = kx (vi ((1 + holB w h g : Nat) : Int)) m'
  | 0, b, S, k, v4, m, hb, hn, _, _, _ => by omega
  | n + 1, b, S, k, v4, m, hb, hn, hk, hg, hS => by
    have H := readB_reg hrd
    have hlen := H.len
    have w8 := H.w8
    have h8 := H.h8
    rw [r31_L0_s, len22, k2s, i_leq, k1s]
    by_cases hlt : b ≤ h + 1
    · rw [decide_eq_true (by omega), kbt, show (.int .i64 (-1) : Value) = vi (((0 : Nat) : Int) - 1) from rfl]
      obtain ⟨v4', m', S', k', e, hk', hg', hS'⟩ := loop31x call fuel base hfu (fun v m => kp v m) (fun y0_87 y4_88 y5_89 y6_90 m => (k1n (mbin E .add 3 y6_90 (.int .i64 1)) fun v21_91 => (r31_L0 call fuel base kp kx n y0_87 y4_88 y5_89 v21_91 m))) hrd G C hbb hv0 hlt fuel 0 S k v4 m (by omega) (by omega) hk hg hS
      have hnx : mbin E .add 3 (vi ((b : Int) - 1)) (.int .i64 1) = some (vi (((b + 1 : Nat) : Int) - 1)) := by
        rw [show ((b + 1 : Nat) : Int) - 1 = (b : Int) - 1 + 1 by omega]
        exact addi _ 1 (by omega) (by omega)
      rw [e, hnx, k1s]
      exact loop31 call fuel base hfu kp kx hrd G C hbb hv0 n (b + 1) S' k' v4' m' (by omega) (by omega) hk' hg' (hS'.row G hlt)
    · have : b = h + 2 := by omega
      subst this
      rw [decide_eq_false (by omega), kbf]
      have hn1 : k = 1 + holB w h g := by
        rcases hS with ⟨r, X, HI⟩ | ⟨_, _, _, h4⟩
        · refine HI.end fun i hi => ?_
          have hgi := G.gap i (get_lt hi)
          rw [hi] at hgi
          have hgi' := hgi.symm
          rw [Bool.and_eq_true, Bool.and_eq_true, decide_eq_true_eq, decide_eq_true_eq] at hgi'
          unfold pos31
          rw [if_neg (by omega), if_neg (by omega)]
          omega
        · omega
      rw [hn1]
      exact ⟨m, rfl⟩
theorem holB_le (w h : Nat) (g : B) : holB w h g ≤ 65 := by
  unfold holB
  have h1 := spl8_len 65 g
  have h2 := List.length_filter_le (goodP w h) (spl8 65 g)
  omega
theorem gap_of {l : List ByteArray} {w h : Nat} {c g : B} (hr : readB l = some (w, h, c, g)) : Gap w h c g := by
  have H := readB_reg hr
  exact ⟨H.w1, H.h1, H.w8, H.h8, H.rect.inn, fun i hi => gaps hr i hi⟩
theorem t31 (n base : Nat) {m : M} {v : Value} {l : List ByteArray} (hv : Strs m v l) :
    rt (n + 970) base 31 [v] m = some (.ret (match readB l with
      | none => .tuple #[vi 0, vi 2]
      | some (w, h, _, g) => .tuple #[vi (holB w h g : Int), vi 0]), m) := by
  suffices hs : ∃ m1, r31 (rt (n + 969)) (n + 969) m.length v m = some (.ret (match readB l with
      | none => .tuple #[vi 0, vi 2]
      | some (w, h, _, g) => .tuple #[vi (holB w h g : Int), vi 0]), m1) by
    obtain ⟨m1, hs⟩ := hs
    refine rt_pure (f := 31) (rf := rf31) (by kernel_rfl) (by kernel_rfl) (by kernel_rfl) (n + 969) base _ m m1 _ hs ?_
    cases readB l with
    | none => rfl
    | some x => rfl
  have h34 := t34 (n + 957) m.length hv
  have h34' : rt (n + 969) m.length 34 [v] m = some (.ret (.bool (readB l).isSome), m) := h34
  unfold r31
  rw [k1_fun, h34', kcs, mnot_b, k1s]
  cases hr : readB l with
  | none => exact ⟨m, rfl⟩
  | some x =>
    obtain ⟨w, h, c, g⟩ := x
    have H := readB_reg hr
    obtain ⟨p, row, rfl, hp, hrow⟩ := strs_sl H hv
    have hh := holB_le w h g
    have C : Cal31 (rt (n + 969)) (sl p l.length) l c := ⟨fun base m x y hv => t47 (n + 968) base H hv x y, fun base m v N d hC hL => t49 (n + 968) base hC (by omega) (by omega) d⟩
    obtain ⟨m', e⟩ := loop31 (rt (n + 969)) (n + 969) m.length (by omega) (fun v m => some (.pan v, m)) (fun y5_92 m => (k1n (mbin E .sub 3 y5_92 (.int .i64 1)) fun v122_93 => (some (.ret (.tuple #[v122_93, (.int .i64 0)]), m)))) hr (gap_of hr) C (Nat.le_refl _) hv (n + 969) 0 [] 0 (.slice none 0 0) m (by omega) (by have := H.h8; omega) (Keeps.refl _ _) (.inl ⟨rfl, rfl, rfl⟩) (.inr ⟨rfl, rfl, rfl, rfl⟩)
    rw [Option.isSome_some, Bool.not_true, kbf]
    have hsub : mbin E .sub 3 (vi ((1 + holB w h g : Nat) : Int)) (.int .i64 1) = some (vi (holB w h g : Int)) := by
      rw [show (holB w h g : Int) = ((1 + holB w h g : Nat) : Int) - 1 by omega]
      exact subi _ 1 (by omega) (by omega)
    rw [hsub, k1s] at e
    exact ⟨m', e⟩
end Go.AM
