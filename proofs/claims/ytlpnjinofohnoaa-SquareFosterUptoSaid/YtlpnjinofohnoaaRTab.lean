import Derived.Test.YtlpnjinofohnoaaRF0
import Derived.Test.YtlpnjinofohnoaaRF1
import Derived.Test.YtlpnjinofohnoaaRF2
import Derived.Test.YtlpnjinofohnoaaRF3
import Derived.Test.YtlpnjinofohnoaaRF4
set_option linter.unusedVariables false
set_option linter.unusedSimpArgs false
namespace Go.AM
open Go Go.Proofs
noncomputable def tab : List (Nat × RF) := [(6, rf6), (7, rf7), (10, rf10), (14, rf14), (15, rf15), (16, rf16), (18, rf18), (20, rf20), (22, rf22), (24, rf24), (26, rf26), (28, rf28), (30, rf30), (32, rf32), (33, rf33), (34, rf34), (35, rf35), (36, rf36), (37, rf37), (38, rf38), (41, rf41), (42, rf42), (43, rf43), (45, rf45), (46, rf46), (48, rf48), (50, rf50), (52, rf52), (53, rf53), (54, rf54), (56, rf56), (57, rf57), (58, rf58), (59, rf59), (60, rf60), (61, rf61), (65, rf65), (66, rf66), (67, rf67), (68, rf68), (72, rf72), (74, rf74), (75, rf75), (76, rf76), (77, rf77), (78, rf78), (79, rf79), (81, rf81), (82, rf82), (83, rf83), (84, rf84), (86, rf86), (87, rf87), (88, rf88), (90, rf90), (91, rf91), (92, rf92), (93, rf93), (94, rf94), (95, rf95), (96, rf96), (97, rf97), (98, rf98), (99, rf99), (100, rf100), (101, rf101), (102, rf102), (103, rf103), (104, rf104), (105, rf105), (106, rf106), (107, rf107), (108, rf108), (109, rf109)]
theorem tab_ok : ∀ p ∈ tab, RFok E p.1 p.2 := by
  unfold tab
  simp only [List.mem_cons, forall_eq_or_imp, List.not_mem_nil, false_imp_iff, implies_true, and_true]
  exact ⟨rf6_ok, rf7_ok, rf10_ok, rf14_ok, rf15_ok, rf16_ok, rf18_ok, rf20_ok, rf22_ok, rf24_ok, rf26_ok, rf28_ok, rf30_ok, rf32_ok, rf33_ok, rf34_ok, rf35_ok, rf36_ok, rf37_ok, rf38_ok, rf41_ok, rf42_ok, rf43_ok, rf45_ok, rf46_ok, rf48_ok, rf50_ok, rf52_ok, rf53_ok, rf54_ok, rf56_ok, rf57_ok, rf58_ok, rf59_ok, rf60_ok, rf61_ok, rf65_ok, rf66_ok, rf67_ok, rf68_ok, rf72_ok, rf74_ok, rf75_ok, rf76_ok, rf77_ok, rf78_ok, rf79_ok, rf81_ok, rf82_ok, rf83_ok, rf84_ok, rf86_ok, rf87_ok, rf88_ok, rf90_ok, rf91_ok, rf92_ok, rf93_ok, rf94_ok, rf95_ok, rf96_ok, rf97_ok, rf98_ok, rf99_ok, rf100_ok, rf101_ok, rf102_ok, rf103_ok, rf104_ok, rf105_ok, rf106_ok, rf107_ok, rf108_ok, rf109_ok⟩
noncomputable def rc (n : Nat) : CallF := rcall E.pure tab n
theorem rc_sound (n : Nat) : SoundCall E (rc n) := rcall_sound E_good E_mix _ tab_ok n
end Go.AM
