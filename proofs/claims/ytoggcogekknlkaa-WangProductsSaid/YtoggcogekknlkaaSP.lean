import Derived.KernelRfl
import Derived.Laws.BytesArg
import Derived.Laws.StructEq
import Derived.Test.YtoggcogekknlkaaRows
import Derived.WalkKit
import Derived.Test.YtoggcogekknlkaaAmB
import Derived.Test.YtoggcogekknlkaaAmModel
import Derived.Test.YtoggcogekknlkaaAmOps5
import Derived.Test.YtoggcogekknlkaaAmOps6
import Derived.Test.YtoggcogekknlkaaAmCode
import Derived.Test.YtoggcogekknlkaaAmX
import Derived.Test.YtoggcogekknlkaaAmEq
import Derived.Test.YtoggcogekknlkaaRBase
import Derived.Test.YtoggcogekknlkaaR95
import Derived.Test.YtoggcogekknlkaaR126
import Derived.Test.YtoggcogekknlkaaAmS
import Derived.Test.YtoggcogekknlkaaS16
import Derived.Test.YtoggcogekknlkaaS17
import Derived.Test.YtoggcogekknlkaaWB
import Derived.Test.YtoggcogekknlkaaSE
set_option linter.unusedVariables false
set_option linter.unusedSimpArgs false
set_option linter.unusedSectionVars false
namespace Go.AM
open Go Go.Proofs
theorem eqlH (a b : Int) : mbin E .eql 128 (vi a) (vi b) = some (.bool (decide (a = b))) := by
  have e : mbin E .eql 128 (vi a) (vi b) = some (.bool (a == b)) := by kernel_rfl
  rw [e]; congr 2
section
variable (n0 base : Nat) (kp : Value → M → Res2) (kr : M → Res2) (fuel n : Nat) {e : Bool} {p C a b lim : Nat} (x8 x9 : Bool) (hbb : base ≤ p) (hC : C ≤ 400000) (hn0 : C ≤ n0) (hb : b ≤ C) (hlim : lim ≤ 1000) (hab : a + 13 ≤ b)
    (hcall : ∀ (a' b' lim : Nat) (m : M) (F : Nat → Int), b' - a' < b - a → a' ≤ b' → b' ≤ C → lim ≤ 1000 → ArrM e m p C F → Lft a' b' F → ∃ (m' : M) (F' : Nat → Int), rt (n0 + 20) base 119 [sl p C, vi a', vi b', vi lim] m = some (.ret (.tuple #[]), m') ∧ ArrM e m' p C F' ∧ Oth p m m' ∧ Mix a' b' F F' ∧ Srt a' b' F')
    (hloop : ∀ (a' b' lim : Nat) (x8 x9 : Bool) (m : M) (F : Nat → Int), b' - a' < b - a → a' ≤ b' → b' ≤ C → lim ≤ 1000 → ArrM e m p C F → Lft a' b' F → DoneA e m p C a' b' F (r119_L0 (rt (n0 + 20)) fuel base kp kr n (sl p C) (vi a') (vi b') (vi lim) (.bool x8) (.bool x9) m) kr)
include hbb hC hn0 hb hlim hab hcall hloop
set_option maxHeartbeats 2000000 in
theorem try119 {q : Nat} (haq : a ≤ q) (hqb : q < b) {m : M} {G : Nat → Int} (hG : ArrM e m p C G) (hL : Lft a b G) :
    DoneA e m p C a b G (kc (rt (n0 + 20) base 128 [(sl p C), (vi a), (vi b)] m) (fun v72_310 m => (kb v72_310 (kr m) (k1n (mbin E .gtr 3 (vi a) (.int .i64 0)) fun v74_311 => (kb v74_311 (k1n (mbin E .sub 3 (vi a) (.int .i64 1)) fun v78_312 => (k1n (mindexAddr E.P 33 (sl p C) v78_312) fun v79_313 => (k1n (xload E.P m 3 v79_313) fun v80_314 => (k1n (mindexAddr E.P 33 (sl p C) (vi q)) fun v83_315 => (k1n (xload E.P m 3 v83_315) fun v84_316 => (kc (kB m (rt (n0 + 20) m.length 129 [v80_314, v84_316] m)) (fun v85_317 m => (k1n (mun .not v85_317) fun v86_318 => (kb v86_318 (kc (rt (n0 + 20) base 130 [(sl p C), (vi a), (vi b), (vi q)] m) (fun v92_319 m => (r119_L0 (rt (n0 + 20)) fuel base kp kr n (sl p C) v92_319 (vi b) (vi lim) (.bool x8) (.bool x9) m)) (fun v m => kp v m)) (kc (rt (n0 + 20) base 131 [(sl p C), (vi a), (vi b), (vi q)] m) (fun v99_320 m => (k1n (mextract 0 v99_320) fun v100_321 => (k1n (mextract 1 v99_320) fun v101_322 => (k1n (mbin E .sub 3 v100_321 (vi a)) fun v105_323 => (k1n (mbin E .sub 3 (vi b) v100_321) fun v108_324 => (k1n (mbin E .quo 3 (vi (b - a : Nat)) (.int .i64 8)) fun v110_325 => (k1n (mbin E .lss 3 v105_323 v108_324) fun v113_326 => (kb v113_326 (k1n (mbin E .geq 3 v105_323 v110_325) fun v116_327 => (kc (rt (n0 + 20) base 119 [(sl p C), (vi a), v100_321, (vi lim)] m) (fun v121_328 m => (k1n (mbin E .add 3 v100_321 (.int .i64 1)) fun v123_329 => (r119_L0 (rt (n0 + 20)) fuel base kp kr n (sl p C) v123_329 (vi b) (vi lim) v116_327 v101_322 m))) (fun v m => kp v m))) (k1n (mbin E .geq 3 v108_324 v110_325) fun v126_330 => (k1n (mbin E .add 3 v100_321 (.int .i64 1)) fun v129_331 => (kc (rt (n0 + 20) base 119 [(sl p C), v129_331, (vi b), (vi lim)] m) (fun v132_332 m => (r119_L0 (rt (n0 + 20)) fuel base kp kr n (sl p C) (vi a) v100_321 (vi lim) v126_330 v101_322 m)) (fun v m => kp v m)))))))))))) (fun v m => kp v m))))) (fun _ _ => none))))))) (kc (rt (n0 + 20) base 131 [(sl p C), (vi a), (vi b), (vi q)] m) (fun v99_333 m => (k1n (mextract 0 v99_333) fun v100_334 => (k1n (mextract 1 v99_333) fun v101_335 => (k1n (mbin E .sub 3 v100_334 (vi a)) fun v105_336 => (k1n (mbin E .sub 3 (vi b) v100_334) fun v108_337 => (k1n (mbin E .quo 3 (vi (b - a : Nat)) (.int .i64 8)) fun v110_338 => (k1n (mbin E .lss 3 v105_336 v108_337) fun v113_339 => (kb v113_339 (k1n (mbin E .geq 3 v105_336 v110_338) fun v116_340 => (kc (rt (n0 + 20) base 119 [(sl p C), (vi a), v100_334, (vi lim)] m) (fun v121_341 m => (k1n (mbin E .add 3 v100_334 (.int .i64 1)) fun v123_342 => (r119_L0 (rt (n0 + 20)) fuel base kp kr n (sl p C) v123_342 (vi b) (vi lim) v116_340 v101_335 m))) (fun v m => kp v m))) (k1n (mbin E .geq 3 v108_337 v110_338) fun v126_343 => (k1n (mbin E .add 3 v100_334 (.int .i64 1)) fun v129_344 => (kc (rt (n0 + 20) base 119 [(sl p C), v129_344, (vi b), (vi lim)] m) (fun v132_345 m => (r119_L0 (rt (n0 + 20)) fuel base kp kr n (sl p C) (vi a) v100_334 (vi lim) v126_343 v101_335 m)) (fun v m => kp v m)))))))))))) (fun v m => kp v m)))))) (fun v m => kp v m)) kr := by
  obtain ⟨m1, G1, fl, e1, h1, o1, x1, s1⟩ := t128 (n0 + 10) base hbb hC hb (by omega) (by omega) hG hL
  refine DoneA.after ?_ o1 x1
  rw [e1, kcs]
  cases fl with
  | true => rw [kbt]; exact ⟨m1, G1, rfl, h1, Oth.refl _ _, Mix.refl _ _ _, s1 rfl⟩
  | false => rw [kbf]; exact rest119 n0 base kp kr fuel n x8 x9 hbb hC hn0 hb hlim haq hqb hcall hloop h1 (hL.mix x1)
set_option maxHeartbeats 2000000 in
theorem pivot119 {m : M} {G : Nat → Int} (hG : ArrM e m p C G) (hL : Lft a b G) :
    DoneA e m p C a b G (kc (rt (n0 + 20) base 126 [(sl p C), (vi a), (vi b)] m) (fun v46_301 m => (k1n (mextract 0 v46_301) fun v47_302 => (k1n (mextract 1 v46_301) fun v48_303 => (k1n (mbin E .eql 128 v48_303 (.int .i64 2)) fun v50_304 => (kb v50_304 (kc (rt (n0 + 20) base 127 [(sl p C), (vi a), (vi b)] m) (fun v54_305 m => (k1n (mbin E .sub 3 (vi b) (.int .i64 1)) fun v56_306 => (k1n (mbin E .sub 3 v47_302 (vi a)) fun v59_307 => (k1n (mbin E .sub 3 v56_306 v59_307) fun v60_308 => (kb (.bool x8) (kb (.bool x9) (k1n (mbin E .eql 128 (.int .i64 1) (.int .i64 1)) fun v67_309 => (kb v67_309 (kc (rt (n0 + 20) base 128 [(sl p C), (vi a), (vi b)] m) (fun v72_310 m => (kb v72_310 (kr m) (k1n (mbin E .gtr 3 (vi a) (.int .i64 0)) fun v74_311 => (kb v74_311 (k1n (mbin E .sub 3 (vi a) (.int .i64 1)) fun v78_312 => (k1n (mindexAddr E.P 33 (sl p C) v78_312) fun v79_313 => (k1n (xload E.P m 3 v79_313) fun v80_314 => (k1n (mindexAddr E.P 33 (sl p C) v60_308) fun v83_315 => (k1n (xload E.P m 3 v83_315) fun v84_316 => (kc (kB m (rt (n0 + 20) m.length 129 [v80_314, v84_316] m)) (fun v85_317 m => (k1n (mun .not v85_317) fun v86_318 => (kb v86_318 (kc (rt (n0 + 20) base 130 [(sl p C), (vi a), (vi b), v60_308] m) (fun v92_319 m => (r119_L0 (rt (n0 + 20)) fuel base kp kr n (sl p C) v92_319 (vi b) (vi lim) (.bool x8) (.bool x9) m)) (fun v m => kp v m)) (kc (rt (n0 + 20) base 131 [(sl p C), (vi a), (vi b), v60_308] m) (fun v99_320 m => (k1n (mextract 0 v99_320) fun v100_321 => (k1n (mextract 1 v99_320) fun v101_322 => (k1n (mbin E .sub 3 v100_321 (vi a)) fun v105_323 => (k1n (mbin E .sub 3 (vi b) v100_321) fun v108_324 => (k1n (mbin E .quo 3 (vi (b - a : Nat)) (.int .i64 8)) fun v110_325 => (k1n (mbin E .lss 3 v105_323 v108_324) fun v113_326 => (kb v113_326 (k1n (mbin E .geq 3 v105_323 v110_325) fun v116_327 => (kc (rt (n0 + 20) base 119 [(sl p C), (vi a), v100_321, (vi lim)] m) (fun v121_328 m => (k1n (mbin E .add 3 v100_321 (.int .i64 1)) fun v123_329 => (r119_L0 (rt (n0 + 20)) fuel base kp kr n (sl p C) v123_329 (vi b) (vi lim) v116_327 v101_322 m))) (fun v m => kp v m))) (k1n (mbin E .geq 3 v108_324 v110_325) fun v126_330 => (k1n (mbin E .add 3 v100_321 (.int .i64 1)) fun v129_331 => (kc (rt (n0 + 20) base 119 [(sl p C), v129_331, (vi b), (vi lim)] m) (fun v132_332 m => (r119_L0 (rt (n0 + 20)) fuel base kp kr n (sl p C) (vi a) v100_321 (vi lim) v126_330 v101_322 m)) (fun v m => kp v m)))))))))))) (fun v m => kp v m))))) (fun _ _ => none))))))) (kc (rt (n0 + 20) base 131 [(sl p C), (vi a), (vi b), v60_308] m) (fun v99_333 m => (k1n (mextract 0 v99_333) fun v100_334 => (k1n (mextract 1 v99_333) fun v101_335 => (k1n (mbin E .sub 3 v100_334 (vi a)) fun v105_336 => (k1n (mbin E .sub 3 (vi b) v100_334) fun v108_337 => (k1n (mbin E .quo 3 (vi (b - a : Nat)) (.int .i64 8)) fun v110_338 => (k1n (mbin E .lss 3 v105_336 v108_337) fun v113_339 => (kb v113_339 (k1n (mbin E .geq 3 v105_336 v110_338) fun v116_340 => (kc (rt (n0 + 20) base 119 [(sl p C), (vi a), v100_334, (vi lim)] m) (fun v121_341 m => (k1n (mbin E .add 3 v100_334 (.int .i64 1)) fun v123_342 => (r119_L0 (rt (n0 + 20)) fuel base kp kr n (sl p C) v123_342 (vi b) (vi lim) v116_340 v101_335 m))) (fun v m => kp v m))) (k1n (mbin E .geq 3 v108_337 v110_338) fun v126_343 => (k1n (mbin E .add 3 v100_334 (.int .i64 1)) fun v129_344 => (kc (rt (n0 + 20) base 119 [(sl p C), v129_344, (vi b), (vi lim)] m) (fun v132_345 m => (r119_L0 (rt (n0 + 20)) fuel base kp kr n (sl p C) (vi a) v100_334 (vi lim) v126_343 v101_335 m)) (fun v m => kp v m)))))))))))) (fun v m => kp v m)))))) (fun v m => kp v m)) (k1n (mbin E .gtr 3 (vi a) (.int .i64 0)) fun v74_346 => (kb v74_346 (k1n (mbin E .sub 3 (vi a) (.int .i64 1)) fun v78_347 => (k1n (mindexAddr E.P 33 (sl p C) v78_347) fun v79_348 => (k1n (xload E.P m 3 v79_348) fun v80_349 => (k1n (mindexAddr E.P 33 (sl p C) v60_308) fun v83_350 => (k1n (xload E.P m 3 v83_350) fun v84_351 => (kc (kB m (rt (n0 + 20) m.length 129 [v80_349, v84_351] m)) (fun v85_352 m => (k1n (mun .not v85_352) fun v86_353 => (kb v86_353 (kc (rt (n0 + 20) base 130 [(sl p C), (vi a), (vi b), v60_308] m) (fun v92_354 m => (r119_L0 (rt (n0 + 20)) fuel base kp kr n (sl p C) v92_354 (vi b) (vi lim) (.bool x8) (.bool x9) m)) (fun v m => kp v m)) (kc (rt (n0 + 20) base 131 [(sl p C), (vi a), (vi b), v60_308] m) (fun v99_355 m => (k1n (mextract 0 v99_355) fun v100_356 => (k1n (mextract 1 v99_355) fun v101_357 => (k1n (mbin E .sub 3 v100_356 (vi a)) fun v105_358 => (k1n (mbin E .sub 3 (vi b) v100_356) fun v108_359 => (k1n (mbin E .quo 3 (vi (b - a : Nat)) (.int .i64 8)) fun v110_360 => (k1n (mbin E .lss 3 v105_358 v108_359) fun v113_361 => (kb v113_361 (k1n (mbin E .geq 3 v105_358 v110_360) fun v116_362 => (kc (rt (n0 + 20) base 119 [(sl p C), (vi a), v100_356, (vi lim)] m) (fun v121_363 m => (k1n (mbin E .add 3 v100_356 (.int .i64 1)) fun v123_364 => (r119_L0 (rt (n0 + 20)) fuel base kp kr n (sl p C) v123_364 (vi b) (vi lim) v116_362 v101_357 m))) (fun v m => kp v m))) (k1n (mbin E .geq 3 v108_359 v110_360) fun v126_365 => (k1n (mbin E .add 3 v100_356 (.int .i64 1)) fun v129_366 => (kc (rt (n0 + 20) base 119 [(sl p C), v129_366, (vi b), (vi lim)] m) (fun v132_367 m => (r119_L0 (rt (n0 + 20)) fuel base kp kr n (sl p C) (vi a) v100_356 (vi lim) v126_365 v101_357 m)) (fun v m => kp v m)))))))))))) (fun v m => kp v m))))) (fun _ _ => none))))))) (kc (rt (n0 + 20) base 131 [(sl p C), (vi a), (vi b), v60_308] m) (fun v99_368 m => (k1n (mextract 0 v99_368) fun v100_369 => (k1n (mextract 1 v99_368) fun v101_370 => (k1n (mbin E .sub 3 v100_369 (vi a)) fun v105_371 => (k1n (mbin E .sub 3 (vi b) v100_369) fun v108_372 => (k1n (mbin E .quo 3 (vi (b - a : Nat)) (.int .i64 8)) fun v110_373 => (k1n (mbin E .lss 3 v105_371 v108_372) fun v113_374 => (kb v113_374 (k1n (mbin E .geq 3 v105_371 v110_373) fun v116_375 => (kc (rt (n0 + 20) base 119 [(sl p C), (vi a), v100_369, (vi lim)] m) (fun v121_376 m => (k1n (mbin E .add 3 v100_369 (.int .i64 1)) fun v123_377 => (r119_L0 (rt (n0 + 20)) fuel base kp kr n (sl p C) v123_377 (vi b) (vi lim) v116_375 v101_370 m))) (fun v m => kp v m))) (k1n (mbin E .geq 3 v108_372 v110_373) fun v126_378 => (k1n (mbin E .add 3 v100_369 (.int .i64 1)) fun v129_379 => (kc (rt (n0 + 20) base 119 [(sl p C), v129_379, (vi b), (vi lim)] m) (fun v132_380 m => (r119_L0 (rt (n0 + 20)) fuel base kp kr n (sl p C) (vi a) v100_369 (vi lim) v126_378 v101_370 m)) (fun v m => kp v m)))))))))))) (fun v m => kp v m)))))) (k1n (mbin E .gtr 3 (vi a) (.int .i64 0)) fun v74_381 => (kb v74_381 (k1n (mbin E .sub 3 (vi a) (.int .i64 1)) fun v78_382 => (k1n (mindexAddr E.P 33 (sl p C) v78_382) fun v79_383 => (k1n (xload E.P m 3 v79_383) fun v80_384 => (k1n (mindexAddr E.P 33 (sl p C) v60_308) fun v83_385 => (k1n (xload E.P m 3 v83_385) fun v84_386 => (kc (kB m (rt (n0 + 20) m.length 129 [v80_384, v84_386] m)) (fun v85_387 m => (k1n (mun .not v85_387) fun v86_388 => (kb v86_388 (kc (rt (n0 + 20) base 130 [(sl p C), (vi a), (vi b), v60_308] m) (fun v92_389 m => (r119_L0 (rt (n0 + 20)) fuel base kp kr n (sl p C) v92_389 (vi b) (vi lim) (.bool x8) (.bool x9) m)) (fun v m => kp v m)) (kc (rt (n0 + 20) base 131 [(sl p C), (vi a), (vi b), v60_308] m) (fun v99_390 m => (k1n (mextract 0 v99_390) fun v100_391 => (k1n (mextract 1 v99_390) fun v101_392 => (k1n (mbin E .sub 3 v100_391 (vi a)) fun v105_393 => (k1n (mbin E .sub 3 (vi b) v100_391) fun v108_394 => (k1n (mbin E .quo 3 (vi (b - a : Nat)) (.int .i64 8)) fun v110_395 => (k1n (mbin E .lss 3 v105_393 v108_394) fun v113_396 => (kb v113_396 (k1n (mbin E .geq 3 v105_393 v110_395) fun v116_397 => (kc (rt (n0 + 20) base 119 [(sl p C), (vi a), v100_391, (vi lim)] m) (fun v121_398 m => (k1n (mbin E .add 3 v100_391 (.int .i64 1)) fun v123_399 => (r119_L0 (rt (n0 + 20)) fuel base kp kr n (sl p C) v123_399 (vi b) (vi lim) v116_397 v101_392 m))) (fun v m => kp v m))) (k1n (mbin E .geq 3 v108_394 v110_395) fun v126_400 => (k1n (mbin E .add 3 v100_391 (.int .i64 1)) fun v129_401 => (kc (rt (n0 + 20) base 119 [(sl p C), v129_401, (vi b), (vi lim)] m) (fun v132_402 m => (r119_L0 (rt (n0 + 20)) fuel base kp kr n (sl p C) (vi a) v100_391 (vi lim) v126_400 v101_392 m)) (fun v m => kp v m)))))))))))) (fun v m => kp v m))))) (fun _ _ => none))))))) (kc (rt (n0 + 20) base 131 [(sl p C), (vi a), (vi b), v60_308] m) (fun v99_403 m => (k1n (mextract 0 v99_403) fun v100_404 => (k1n (mextract 1 v99_403) fun v101_405 => (k1n (mbin E .sub 3 v100_404 (vi a)) fun v105_406 => (k1n (mbin E .sub 3 (vi b) v100_404) fun v108_407 => (k1n (mbin E .quo 3 (vi (b - a : Nat)) (.int .i64 8)) fun v110_408 => (k1n (mbin E .lss 3 v105_406 v108_407) fun v113_409 => (kb v113_409 (k1n (mbin E .geq 3 v105_406 v110_408) fun v116_410 => (kc (rt (n0 + 20) base 119 [(sl p C), (vi a), v100_404, (vi lim)] m) (fun v121_411 m => (k1n (mbin E .add 3 v100_404 (.int .i64 1)) fun v123_412 => (r119_L0 (rt (n0 + 20)) fuel base kp kr n (sl p C) v123_412 (vi b) (vi lim) v116_410 v101_405 m))) (fun v m => kp v m))) (k1n (mbin E .geq 3 v108_407 v110_408) fun v126_413 => (k1n (mbin E .add 3 v100_404 (.int .i64 1)) fun v129_414 => (kc (rt (n0 + 20) base 119 [(sl p C), v129_414, (vi b), (vi lim)] m) (fun v132_415 m => (r119_L0 (rt (n0 + 20)) fuel base kp kr n (sl p C) (vi a) v100_404 (vi lim) v126_413 v101_405 m)) (fun v m => kp v m)))))))))))) (fun v m => kp v m))))) (k1n (mbin E .gtr 3 (vi a) (.int .i64 0)) fun v74_416 => (kb v74_416 (k1n (mbin E .sub 3 (vi a) (.int .i64 1)) fun v78_417 => (k1n (mindexAddr E.P 33 (sl p C) v78_417) fun v79_418 => (k1n (xload E.P m 3 v79_418) fun v80_419 => (k1n (mindexAddr E.P 33 (sl p C) v60_308) fun v83_420 => (k1n (xload E.P m 3 v83_420) fun v84_421 => (kc (kB m (rt (n0 + 20) m.length 129 [v80_419, v84_421] m)) (fun v85_422 m => (k1n (mun .not v85_422) fun v86_423 => (kb v86_423 (kc (rt (n0 + 20) base 130 [(sl p C), (vi a), (vi b), v60_308] m) (fun v92_424 m => (r119_L0 (rt (n0 + 20)) fuel base kp kr n (sl p C) v92_424 (vi b) (vi lim) (.bool x8) (.bool x9) m)) (fun v m => kp v m)) (kc (rt (n0 + 20) base 131 [(sl p C), (vi a), (vi b), v60_308] m) (fun v99_425 m => (k1n (mextract 0 v99_425) fun v100_426 => (k1n (mextract 1 v99_425) fun v101_427 => (k1n (mbin E .sub 3 v100_426 (vi a)) fun v105_428 => (k1n (mbin E .sub 3 (vi b) v100_426) fun v108_429 => (k1n (mbin E .quo 3 (vi (b - a : Nat)) (.int .i64 8)) fun v110_430 => (k1n (mbin E .lss 3 v105_428 v108_429) fun v113_431 => (kb v113_431 (k1n (mbin E .geq 3 v105_428 v110_430) fun v116_432 => (kc (rt (n0 + 20) base 119 [(sl p C), (vi a), v100_426, (vi lim)] m) (fun v121_433 m => (k1n (mbin E .add 3 v100_426 (.int .i64 1)) fun v123_434 => (r119_L0 (rt (n0 + 20)) fuel base kp kr n (sl p C) v123_434 (vi b) (vi lim) v116_432 v101_427 m))) (fun v m => kp v m))) (k1n (mbin E .geq 3 v108_429 v110_430) fun v126_435 => (k1n (mbin E .add 3 v100_426 (.int .i64 1)) fun v129_436 => (kc (rt (n0 + 20) base 119 [(sl p C), v129_436, (vi b), (vi lim)] m) (fun v132_437 m => (r119_L0 (rt (n0 + 20)) fuel base kp kr n (sl p C) (vi a) v100_426 (vi lim) v126_435 v101_427 m)) (fun v m => kp v m)))))))))))) (fun v m => kp v m))))) (fun _ _ => none))))))) (kc (rt (n0 + 20) base 131 [(sl p C), (vi a), (vi b), v60_308] m) (fun v99_438 m => (k1n (mextract 0 v99_438) fun v100_439 => (k1n (mextract 1 v99_438) fun v101_440 => (k1n (mbin E .sub 3 v100_439 (vi a)) fun v105_441 => (k1n (mbin E .sub 3 (vi b) v100_439) fun v108_442 => (k1n (mbin E .quo 3 (vi (b - a : Nat)) (.int .i64 8)) fun v110_443 => (k1n (mbin E .lss 3 v105_441 v108_442) fun v113_444 => (kb v113_444 (k1n (mbin E .geq 3 v105_441 v110_443) fun v116_445 => (kc (rt (n0 + 20) base 119 [(sl p C), (vi a), v100_439, (vi lim)] m) (fun v121_446 m => (k1n (mbin E .add 3 v100_439 (.int .i64 1)) fun v123_447 => (r119_L0 (rt (n0 + 20)) fuel base kp kr n (sl p C) v123_447 (vi b) (vi lim) v116_445 v101_440 m))) (fun v m => kp v m))) (k1n (mbin E .geq 3 v108_442 v110_443) fun v126_448 => (k1n (mbin E .add 3 v100_439 (.int .i64 1)) fun v129_449 => (kc (rt (n0 + 20) base 119 [(sl p C), v129_449, (vi b), (vi lim)] m) (fun v132_450 m => (r119_L0 (rt (n0 + 20)) fuel base kp kr n (sl p C) (vi a) v100_439 (vi lim) v126_448 v101_440 m)) (fun v m => kp v m)))))))))))) (fun v m => kp v m))))))))) (fun v m => kp v m)) (kb (.bool x8) (kb (.bool x9) (k1n (mbin E .eql 128 v48_303 (.int .i64 1)) fun v67_451 => (kb v67_451 (kc (rt (n0 + 20) base 128 [(sl p C), (vi a), (vi b)] m) (fun v72_452 m => (kb v72_452 (kr m) (k1n (mbin E .gtr 3 (vi a) (.int .i64 0)) fun v74_453 => (kb v74_453 (k1n (mbin E .sub 3 (vi a) (.int .i64 1)) fun v78_454 => (k1n (mindexAddr E.P 33 (sl p C) v78_454) fun v79_455 => (k1n (xload E.P m 3 v79_455) fun v80_456 => (k1n (mindexAddr E.P 33 (sl p C) v47_302) fun v83_457 => (k1n (xload E.P m 3 v83_457) fun v84_458 => (kc (kB m (rt (n0 + 20) m.length 129 [v80_456, v84_458] m)) (fun v85_459 m => (k1n (mun .not v85_459) fun v86_460 => (kb v86_460 (kc (rt (n0 + 20) base 130 [(sl p C), (vi a), (vi b), v47_302] m) (fun v92_461 m => (r119_L0 (rt (n0 + 20)) fuel base kp kr n (sl p C) v92_461 (vi b) (vi lim) (.bool x8) (.bool x9) m)) (fun v m => kp v m)) (kc (rt (n0 + 20) base 131 [(sl p C), (vi a), (vi b), v47_302] m) (fun v99_462 m => (k1n (mextract 0 v99_462) fun v100_463 => (k1n (mextract 1 v99_462) fun v101_464 => (k1n (mbin E .sub 3 v100_463 (vi a)) fun v105_465 => (k1n (mbin E .sub 3 (vi b) v100_463) fun v108_466 => (k1n (mbin E .quo 3 (vi (b - a : Nat)) (.int .i64 8)) fun v110_467 => (k1n (mbin E .lss 3 v105_465 v108_466) fun v113_468 => (kb v113_468 (k1n (mbin E .geq 3 v105_465 v110_467) fun v116_469 => (kc (rt (n0 + 20) base 119 [(sl p C), (vi a), v100_463, (vi lim)] m) (fun v121_470 m => (k1n (mbin E .add 3 v100_463 (.int .i64 1)) fun v123_471 => (r119_L0 (rt (n0 + 20)) fuel base kp kr n (sl p C) v123_471 (vi b) (vi lim) v116_469 v101_464 m))) (fun v m => kp v m))) (k1n (mbin E .geq 3 v108_466 v110_467) fun v126_472 => (k1n (mbin E .add 3 v100_463 (.int .i64 1)) fun v129_473 => (kc (rt (n0 + 20) base 119 [(sl p C), v129_473, (vi b), (vi lim)] m) (fun v132_474 m => (r119_L0 (rt (n0 + 20)) fuel base kp kr n (sl p C) (vi a) v100_463 (vi lim) v126_472 v101_464 m)) (fun v m => kp v m)))))))))))) (fun v m => kp v m))))) (fun _ _ => none))))))) (kc (rt (n0 + 20) base 131 [(sl p C), (vi a), (vi b), v47_302] m) (fun v99_475 m => (k1n (mextract 0 v99_475) fun v100_476 => (k1n (mextract 1 v99_475) fun v101_477 => (k1n (mbin E .sub 3 v100_476 (vi a)) fun v105_478 => (k1n (mbin E .sub 3 (vi b) v100_476) fun v108_479 => (k1n (mbin E .quo 3 (vi (b - a : Nat)) (.int .i64 8)) fun v110_480 => (k1n (mbin E .lss 3 v105_478 v108_479) fun v113_481 => (kb v113_481 (k1n (mbin E .geq 3 v105_478 v110_480) fun v116_482 => (kc (rt (n0 + 20) base 119 [(sl p C), (vi a), v100_476, (vi lim)] m) (fun v121_483 m => (k1n (mbin E .add 3 v100_476 (.int .i64 1)) fun v123_484 => (r119_L0 (rt (n0 + 20)) fuel base kp kr n (sl p C) v123_484 (vi b) (vi lim) v116_482 v101_477 m))) (fun v m => kp v m))) (k1n (mbin E .geq 3 v108_479 v110_480) fun v126_485 => (k1n (mbin E .add 3 v100_476 (.int .i64 1)) fun v129_486 => (kc (rt (n0 + 20) base 119 [(sl p C), v129_486, (vi b), (vi lim)] m) (fun v132_487 m => (r119_L0 (rt (n0 + 20)) fuel base kp kr n (sl p C) (vi a) v100_476 (vi lim) v126_485 v101_477 m)) (fun v m => kp v m)))))))))))) (fun v m => kp v m)))))) (fun v m => kp v m)) (k1n (mbin E .gtr 3 (vi a) (.int .i64 0)) fun v74_488 => (kb v74_488 (k1n (mbin E .sub 3 (vi a) (.int .i64 1)) fun v78_489 => (k1n (mindexAddr E.P 33 (sl p C) v78_489) fun v79_490 => (k1n (xload E.P m 3 v79_490) fun v80_491 => (k1n (mindexAddr E.P 33 (sl p C) v47_302) fun v83_492 => (k1n (xload E.P m 3 v83_492) fun v84_493 => (kc (kB m (rt (n0 + 20) m.length 129 [v80_491, v84_493] m)) (fun v85_494 m => (k1n (mun .not v85_494) fun v86_495 => (kb v86_495 (kc (rt (n0 + 20) base 130 [(sl p C), (vi a), (vi b), v47_302] m) (fun v92_496 m => (r119_L0 (rt (n0 + 20)) fuel base kp kr n (sl p C) v92_496 (vi b) (vi lim) (.bool x8) (.bool x9) m)) (fun v m => kp v m)) (kc (rt (n0 + 20) base 131 [(sl p C), (vi a), (vi b), v47_302] m) (fun v99_497 m => (k1n (mextract 0 v99_497) fun v100_498 => (k1n (mextract 1 v99_497) fun v101_499 => (k1n (mbin E .sub 3 v100_498 (vi a)) fun v105_500 => (k1n (mbin E .sub 3 (vi b) v100_498) fun v108_501 => (k1n (mbin E .quo 3 (vi (b - a : Nat)) (.int .i64 8)) fun v110_502 => (k1n (mbin E .lss 3 v105_500 v108_501) fun v113_503 => (kb v113_503 (k1n (mbin E .geq 3 v105_500 v110_502) fun v116_504 => (kc (rt (n0 + 20) base 119 [(sl p C), (vi a), v100_498, (vi lim)] m) (fun v121_505 m => (k1n (mbin E .add 3 v100_498 (.int .i64 1)) fun v123_506 => (r119_L0 (rt (n0 + 20)) fuel base kp kr n (sl p C) v123_506 (vi b) (vi lim) v116_504 v101_499 m))) (fun v m => kp v m))) (k1n (mbin E .geq 3 v108_501 v110_502) fun v126_507 => (k1n (mbin E .add 3 v100_498 (.int .i64 1)) fun v129_508 => (kc (rt (n0 + 20) base 119 [(sl p C), v129_508, (vi b), (vi lim)] m) (fun v132_509 m => (r119_L0 (rt (n0 + 20)) fuel base kp kr n (sl p C) (vi a) v100_498 (vi lim) v126_507 v101_499 m)) (fun v m => kp v m)))))))))))) (fun v m => kp v m))))) (fun _ _ => none))))))) (kc (rt (n0 + 20) base 131 [(sl p C), (vi a), (vi b), v47_302] m) (fun v99_510 m => (k1n (mextract 0 v99_510) fun v100_511 => (k1n (mextract 1 v99_510) fun v101_512 => (k1n (mbin E .sub 3 v100_511 (vi a)) fun v105_513 => (k1n (mbin E .sub 3 (vi b) v100_511) fun v108_514 => (k1n (mbin E .quo 3 (vi (b - a : Nat)) (.int .i64 8)) fun v110_515 => (k1n (mbin E .lss 3 v105_513 v108_514) fun v113_516 => (kb v113_516 (k1n (mbin E .geq 3 v105_513 v110_515) fun v116_517 => (kc (rt (n0 + 20) base 119 [(sl p C), (vi a), v100_511, (vi lim)] m) (fun v121_518 m => (k1n (mbin E .add 3 v100_511 (.int .i64 1)) fun v123_519 => (r119_L0 (rt (n0 + 20)) fuel base kp kr n (sl p C) v123_519 (vi b) (vi lim) v116_517 v101_512 m))) (fun v m => kp v m))) (k1n (mbin E .geq 3 v108_514 v110_515) fun v126_520 => (k1n (mbin E .add 3 v100_511 (.int .i64 1)) fun v129_521 => (kc (rt (n0 + 20) base 119 [(sl p C), v129_521, (vi b), (vi lim)] m) (fun v132_522 m => (r119_L0 (rt (n0 + 20)) fuel base kp kr n (sl p C) (vi a) v100_511 (vi lim) v126_520 v101_512 m)) (fun v m => kp v m)))))))))))) (fun v m => kp v m)))))) (k1n (mbin E .gtr 3 (vi a) (.int .i64 0)) fun v74_523 => (kb v74_523 (k1n (mbin E .sub 3 (vi a) (.int .i64 1)) fun v78_524 => (k1n (mindexAddr E.P 33 (sl p C) v78_524) fun v79_525 => (k1n (xload E.P m 3 v79_525) fun v80_526 => (k1n (mindexAddr E.P 33 (sl p C) v47_302) fun v83_527 => (k1n (xload E.P m 3 v83_527) fun v84_528 => (kc (kB m (rt (n0 + 20) m.length 129 [v80_526, v84_528] m)) (fun v85_529 m => (k1n (mun .not v85_529) fun v86_530 => (kb v86_530 (kc (rt (n0 + 20) base 130 [(sl p C), (vi a), (vi b), v47_302] m) (fun v92_531 m => (r119_L0 (rt (n0 + 20)) fuel base kp kr n (sl p C) v92_531 (vi b) (vi lim) (.bool x8) (.bool x9) m)) (fun v m => kp v m)) (kc (rt (n0 + 20) base 131 [(sl p C), (vi a), (vi b), v47_302] m) (fun v99_532 m => (k1n (mextract 0 v99_532) fun v100_533 => (k1n (mextract 1 v99_532) fun v101_534 => (k1n (mbin E .sub 3 v100_533 (vi a)) fun v105_535 => (k1n (mbin E .sub 3 (vi b) v100_533) fun v108_536 => (k1n (mbin E .quo 3 (vi (b - a : Nat)) (.int .i64 8)) fun v110_537 => (k1n (mbin E .lss 3 v105_535 v108_536) fun v113_538 => (kb v113_538 (k1n (mbin E .geq 3 v105_535 v110_537) fun v116_539 => (kc (rt (n0 + 20) base 119 [(sl p C), (vi a), v100_533, (vi lim)] m) (fun v121_540 m => (k1n (mbin E .add 3 v100_533 (.int .i64 1)) fun v123_541 => (r119_L0 (rt (n0 + 20)) fuel base kp kr n (sl p C) v123_541 (vi b) (vi lim) v116_539 v101_534 m))) (fun v m => kp v m))) (k1n (mbin E .geq 3 v108_536 v110_537) fun v126_542 => (k1n (mbin E .add 3 v100_533 (.int .i64 1)) fun v129_543 => (kc (rt (n0 + 20) base 119 [(sl p C), v129_543, (vi b), (vi lim)] m) (fun v132_544 m => (r119_L0 (rt (n0 + 20)) fuel base kp kr n (sl p C) (vi a) v100_533 (vi lim) v126_542 v101_534 m)) (fun v m => kp v m)))))))))))) (fun v m => kp v m))))) (fun _ _ => none))))))) (kc (rt (n0 + 20) base 131 [(sl p C), (vi a), (vi b), v47_302] m) (fun v99_545 m => (k1n (mextract 0 v99_545) fun v100_546 => (k1n (mextract 1 v99_545) fun v101_547 => (k1n (mbin E .sub 3 v100_546 (vi a)) fun v105_548 => (k1n (mbin E .sub 3 (vi b) v100_546) fun v108_549 => (k1n (mbin E .quo 3 (vi (b - a : Nat)) (.int .i64 8)) fun v110_550 => (k1n (mbin E .lss 3 v105_548 v108_549) fun v113_551 => (kb v113_551 (k1n (mbin E .geq 3 v105_548 v110_550) fun v116_552 => (kc (rt (n0 + 20) base 119 [(sl p C), (vi a), v100_546, (vi lim)] m) (fun v121_553 m => (k1n (mbin E .add 3 v100_546 (.int .i64 1)) fun v123_554 => (r119_L0 (rt (n0 + 20)) fuel base kp kr n (sl p C) v123_554 (vi b) (vi lim) v116_552 v101_547 m))) (fun v m => kp v m))) (k1n (mbin E .geq 3 v108_549 v110_550) fun v126_555 => (k1n (mbin E .add 3 v100_546 (.int .i64 1)) fun v129_556 => (kc (rt (n0 + 20) base 119 [(sl p C), v129_556, (vi b), (vi lim)] m) (fun v132_557 m => (r119_L0 (rt (n0 + 20)) fuel base kp kr n (sl p C) (vi a) v100_546 (vi lim) v126_555 v101_547 m)) (fun v m => kp v m)))))))))))) (fun v m => kp v m))))) (k1n (mbin E .gtr 3 (vi a) (.int .i64 0)) fun v74_558 => (kb v74_558 (k1n (mbin E .sub 3 (vi a) (.int .i64 1)) fun v78_559 => (k1n (mindexAddr E.P 33 (sl p C) v78_559) fun v79_560 => (k1n (xload E.P m 3 v79_560) fun v80_561 => (k1n (mindexAddr E.P 33 (sl p C) v47_302) fun v83_562 => (k1n (xload E.P m 3 v83_562) fun v84_563 => (kc (kB m (rt (n0 + 20) m.length 129 [v80_561, v84_563] m)) (fun v85_564 m => (k1n (mun .not v85_564) fun v86_565 => (kb v86_565 (kc (rt (n0 + 20) base 130 [(sl p C), (vi a), (vi b), v47_302] m) (fun v92_566 m => (r119_L0 (rt (n0 + 20)) fuel base kp kr n (sl p C) v92_566 (vi b) (vi lim) (.bool x8) (.bool x9) m)) (fun v m => kp v m)) (kc (rt (n0 + 20) base 131 [(sl p C), (vi a), (vi b), v47_302] m) (fun v99_567 m => (k1n (mextract 0 v99_567) fun v100_568 => (k1n (mextract 1 v99_567) fun v101_569 => (k1n (mbin E .sub 3 v100_568 (vi a)) fun v105_570 => (k1n (mbin E .sub 3 (vi b) v100_568) fun v108_571 => (k1n (mbin E .quo 3 (vi (b - a : Nat)) (.int .i64 8)) fun v110_572 => (k1n (mbin E .lss 3 v105_570 v108_571) fun v113_573 => (kb v113_573 (k1n (mbin E .geq 3 v105_570 v110_572) fun v116_574 => (kc (rt (n0 + 20) base 119 [(sl p C), (vi a), v100_568, (vi lim)] m) (fun v121_575 m => (k1n (mbin E .add 3 v100_568 (.int .i64 1)) fun v123_576 => (r119_L0 (rt (n0 + 20)) fuel base kp kr n (sl p C) v123_576 (vi b) (vi lim) v116_574 v101_569 m))) (fun v m => kp v m))) (k1n (mbin E .geq 3 v108_571 v110_572) fun v126_577 => (k1n (mbin E .add 3 v100_568 (.int .i64 1)) fun v129_578 => (kc (rt (n0 + 20) base 119 [(sl p C), v129_578, (vi b), (vi lim)] m) (fun v132_579 m => (r119_L0 (rt (n0 + 20)) fuel base kp kr n (sl p C) (vi a) v100_568 (vi lim) v126_577 v101_569 m)) (fun v m => kp v m)))))))))))) (fun v m => kp v m))))) (fun _ _ => none))))))) (kc (rt (n0 + 20) base 131 [(sl p C), (vi a), (vi b), v47_302] m) (fun v99_580 m => (k1n (mextract 0 v99_580) fun v100_581 => (k1n (mextract 1 v99_580) fun v101_582 => (k1n (mbin E .sub 3 v100_581 (vi a)) fun v105_583 => (k1n (mbin E .sub 3 (vi b) v100_581) fun v108_584 => (k1n (mbin E .quo 3 (vi (b - a : Nat)) (.int .i64 8)) fun v110_585 => (k1n (mbin E .lss 3 v105_583 v108_584) fun v113_586 => (kb v113_586 (k1n (mbin E .geq 3 v105_583 v110_585) fun v116_587 => (kc (rt (n0 + 20) base 119 [(sl p C), (vi a), v100_581, (vi lim)] m) (fun v121_588 m => (k1n (mbin E .add 3 v100_581 (.int .i64 1)) fun v123_589 => (r119_L0 (rt (n0 + 20)) fuel base kp kr n (sl p C) v123_589 (vi b) (vi lim) v116_587 v101_582 m))) (fun v m => kp v m))) (k1n (mbin E .geq 3 v108_584 v110_585) fun v126_590 => (k1n (mbin E .add 3 v100_581 (.int .i64 1)) fun v129_591 => (kc (rt (n0 + 20) base 119 [(sl p C), v129_591, (vi b), (vi lim)] m) (fun v132_592 m => (r119_L0 (rt (n0 + 20)) fuel base kp kr n (sl p C) (vi a) v100_581 (vi lim) v126_590 v101_582 m)) (fun v m => kp v m)))))))))))) (fun v m => kp v m)))))))))) (fun v m => kp v m)) kr := by
  obtain ⟨m1, r, h, e1, h1, o1, c1, c2, c3⟩ := t126 (n0 + 14) base (a := a) hbb hC hb (show a + 8 ≤ b by omega) hG
  refine DoneA.after ?_ o1 (Mix.refl _ _ _)
  rw [e1, kcs, ex20, k1s, ex21, k1s, show (.int .i64 2 : Value) = vi 2 from rfl, eqlH, k1s]
  by_cases h2 : h = 2
  · obtain ⟨m2, G2, e2, g2, o2, x2⟩ := t127 (n0 + 18) base hbb hC hb (show a < b by omega) (by omega) h1
    rw [decide_eq_true (show (h : Int) = 2 by omega), kbt, e2, kcs, sub1 b (by omega) (by omega), k1s, subC r a c1 (by omega), k1s, subC (b - 1) (r - a) (by omega) (by omega), k1s]
    refine DoneA.after ?_ o2 x2
    have hL2 := hL.mix x2
    have rest := fun {m : M} {G : Nat → Int} => rest119 n0 base kp kr fuel n (e := e) (p := p) (C := C) (a := a) (b := b) (q := b - 1 - (r - a)) x8 x9 hbb hC hn0 hb hlim (by omega) (by omega) hcall hloop (m := m) (G := G)
    cases x8 with
    | false => rw [kbf]; exact rest g2 hL2
    | true =>
      rw [kbt]
      cases x9 with
      | false => rw [kbf]; exact rest g2 hL2
      | true =>
        rw [kbt, show (.int .i64 1 : Value) = vi 1 from rfl, eqlH, k1s, decide_eq_true rfl, kbt]
        exact try119 n0 base kp kr fuel n true true hbb hC hn0 hb hlim hab hcall hloop (by omega) (by omega) g2 hL2
  · rw [decide_eq_false (show ¬ (h : Int) = 2 by omega), kbf]
    have rest := fun {m : M} {G : Nat → Int} => rest119 n0 base kp kr fuel n (e := e) (p := p) (C := C) (a := a) (b := b) (q := r) x8 x9 hbb hC hn0 hb hlim c1 c2 hcall hloop (m := m) (G := G)
    cases x8 with
    | false => rw [kbf]; exact rest h1 hL
    | true =>
      rw [kbt]
      cases x9 with
      | false => rw [kbf]; exact rest h1 hL
      | true =>
        rw [kbt, show (.int .i64 1 : Value) = vi 1 from rfl, eqlH, k1s]
        by_cases hh : h = 1
        · rw [decide_eq_true (show (h : Int) = 1 by omega), kbt]
          exact try119 n0 base kp kr fuel n true true hbb hC hn0 hb hlim hab hcall hloop c1 c2 h1 hL
        · rw [decide_eq_false (show ¬ (h : Int) = 1 by omega), kbf]
          exact rest h1 hL
end
theorem loop119 (n0 base : Nat) (kp : Value → M → Res2) (kr : M → Res2) (fuel : Nat) {e : Bool} {p C : Nat} (hbb : base ≤ p) (hC : C ≤ 400000) (hn0 : C ≤ n0) (K : Nat)
    (hcall : ∀ (a' b' lim : Nat) (m : M) (F : Nat → Int), b' - a' < K → a' ≤ b' → b' ≤ C → lim ≤ 1000 → ArrM e m p C F → Lft a' b' F → ∃ (m' : M) (F' : Nat → Int), rt (n0 + 20) base 119 [sl p C, vi a', vi b', vi lim] m = some (.ret (.tuple #[]), m') ∧ ArrM e m' p C F' ∧ Oth p m m' ∧ Mix a' b' F F' ∧ Srt a' b' F') :
    ∀ (n a b lim : Nat) (x8 x9 : Bool) (m : M) (F : Nat → Int), b - a ≤ K → b - a < n → a ≤ b → b ≤ C → lim ≤ 1000 → ArrM e m p C F → Lft a b F → DoneA e m p C a b F (r119_L0 (rt (n0 + 20)) fuel base kp kr n (sl p C) (vi a) (vi b) (vi lim) (.bool x8) (.bool x9) m) kr
  | 0, a, b, lim, x8, x9, m, F, hK, hn, hab, hb, hlim, hF, hL => by omega
  | n + 1, a, b, lim, x8, x9, m, F, hK, hn, hab, hb, hlim, hF, hL => by
    rw [r119_L0_s, subC b a hab (by omega), k1s, show (.int .i64 12 : Value) = vi (12 : Nat) from rfl, leq3, k1s]
    by_cases h12 : b - a ≤ 12
    · obtain ⟨m1, G1, e1, h1, o1, x1, s1⟩ := t123 (n0 + 17) base hbb (show C ≤ 1000000 by omega) hb (show a ≤ C by omega) (by omega) hF
      rw [decide_eq_true (show ((b - a : Nat) : Int) ≤ (12 : Nat) by omega), kbt, e1, kcs]
      exact ⟨m1, G1, rfl, h1, o1, x1, s1⟩
    · rw [decide_eq_false (show ¬ ((b - a : Nat) : Int) ≤ (12 : Nat) by omega), kbf, show (.int .i64 0 : Value) = vi 0 from rfl, eql3, k1s]
      by_cases h0 : lim = 0
      · obtain ⟨m1, G1, e1, h1, o1, x1, s1⟩ := t124 (n0 + 16) base hbb hC hb (show a < b by omega) (by omega) hF
        rw [decide_eq_true (show (lim : Int) = 0 by omega), kbt, e1, kcs]
        exact ⟨m1, G1, rfl, h1, o1, x1, s1⟩
      · rw [decide_eq_false (show ¬ (lim : Int) = 0 by omega), kbf, not4, k1s]
        have hc : ∀ (a' b' lim : Nat) (m : M) (F : Nat → Int), b' - a' < b - a → a' ≤ b' → b' ≤ C → lim ≤ 1000 → ArrM e m p C F → Lft a' b' F → ∃ (m' : M) (F' : Nat → Int), rt (n0 + 20) base 119 [sl p C, vi a', vi b', vi lim] m = some (.ret (.tuple #[]), m') ∧ ArrM e m' p C F' ∧ Oth p m m' ∧ Mix a' b' F F' ∧ Srt a' b' F' := fun a' b' lim' m' F' g => hcall a' b' lim' m' F' (by omega)
        have hl : ∀ (a' b' lim : Nat) (x8 x9 : Bool) (m : M) (F : Nat → Int), b' - a' < b - a → a' ≤ b' → b' ≤ C → lim ≤ 1000 → ArrM e m p C F → Lft a' b' F → DoneA e m p C a' b' F (r119_L0 (rt (n0 + 20)) fuel base kp kr n (sl p C) (vi a') (vi b') (vi lim) (.bool x8) (.bool x9) m) kr := fun a' b' lim' y8 y9 m' F' g => loop119 n0 base kp kr fuel hbb hC hn0 K hcall n a' b' lim' y8 y9 m' F' (by omega) (by omega)
        cases x8 with
        | false =>
          obtain ⟨m1, G1, e1, h1, o1, x1⟩ := t125 (n0 + 12) base hbb hC hb (show a + 8 ≤ b by omega) (by omega) hF
          rw [Bool.not_false, kbt, e1, kcs, sub1 lim (by omega) (by omega), k1s]
          exact DoneA.after (pivot119 n0 base kp kr fuel n (lim := lim - 1) false x9 hbb hC hn0 hb (by omega) (by omega) hc hl h1 (hL.mix x1)) o1 x1
        | true =>
          rw [Bool.not_true, kbf]
          exact pivot119 n0 base kp kr fuel n true x9 hbb hC hn0 hb hlim (by omega) hc hl hF hL
theorem t119 (n0 base : Nat) {e : Bool} {p C : Nat} (hbb : base ≤ p) (hC : C ≤ 400000) (hn0 : C ≤ n0) : ∀ (k a b lim : Nat) (m : M) (F : Nat → Int), b - a ≤ k → a ≤ b → b ≤ C → lim ≤ 1000 → ArrM e m p C F → Lft a b F →
    ∃ (m' : M) (F' : Nat → Int), rt (n0 + 21 + k) base 119 [sl p C, vi a, vi b, vi lim] m = some (.ret (.tuple #[]), m') ∧ ArrM e m' p C F' ∧ Oth p m m' ∧ Mix a b F F' ∧ Srt a b F' := by
  have main : ∀ (k : Nat), (∀ (a' b' lim : Nat) (m : M) (F : Nat → Int), b' - a' < k → a' ≤ b' → b' ≤ C → lim ≤ 1000 → ArrM e m p C F → Lft a' b' F → ∃ (m' : M) (F' : Nat → Int), rt (n0 + k + 20) base 119 [sl p C, vi a', vi b', vi lim] m = some (.ret (.tuple #[]), m') ∧ ArrM e m' p C F' ∧ Oth p m m' ∧ Mix a' b' F F' ∧ Srt a' b' F') →
      ∀ (a b lim : Nat) (m : M) (F : Nat → Int), b - a ≤ k → a ≤ b → b ≤ C → lim ≤ 1000 → ArrM e m p C F → Lft a b F → ∃ (m' : M) (F' : Nat → Int), rt (n0 + 21 + k) base 119 [sl p C, vi a, vi b, vi lim] m = some (.ret (.tuple #[]), m') ∧ ArrM e m' p C F' ∧ Oth p m m' ∧ Mix a b F F' ∧ Srt a b F' := fun k hk a b lim m F h1 h2 h3 h4 hF hL => by
    rw [show n0 + 21 + k = (n0 + k + 20) + 1 by omega, rt_imp (f := 119) (rf := rf119) (by kernel_rfl) (by kernel_rfl) (by kernel_rfl) (n0 + k + 20) base]
    show ∃ (m' : M) (F' : Nat → Int), r119 (rt (n0 + k + 20)) (n0 + k + 20) base (sl p C) (vi a) (vi b) (vi lim) m = _ ∧ _
    unfold r119
    exact loop119 (n0 + k) base (fun v m => some (.pan v, m)) (fun m => (some (.ret (.tuple #[]), m))) (n0 + k + 20) hbb hC (by omega) k hk (n0 + k + 20) a b lim true true m F h1 (by omega) h2 h3 h4 hF hL
  intro k
  induction k with
  | zero => exact main 0 fun a' b' lim m F h => by omega
  | succ k ih =>
    refine main (k + 1) fun a' b' lim m F h => ?_
    rw [show n0 + (k + 1) + 20 = n0 + 21 + k by omega]
    exact ih a' b' lim m F (by omega)
/-- slices.Sort. -/
theorem t109 (n0 base : Nat) {e : Bool} {m : M} {p C : Nat} {F : Nat → Int} (hbb : base ≤ p) (hC : C ≤ 400000) (hn0 : C ≤ n0) (hF : ArrM e m p C F) :
    ∃ (m' : M) (F' : Nat → Int), rt (n0 + 22 + C) base 109 [sl p C] m = some (.ret (.tuple #[]), m') ∧ ArrM e m' p C F' ∧ Oth p m m' ∧ Mix 0 C F F' ∧ Srt 0 C F' := by
  rw [show n0 + 22 + C = (n0 + 21 + C) + 1 by omega, rt_imp (f := 109) (rf := rf109) (by kernel_rfl) (by kernel_rfl) (by kernel_rfl) (n0 + 21 + C) base]
  show ∃ (m' : M) (F' : Nat → Int), r109 (rt (n0 + 21 + C)) (n0 + 21 + C) base (sl p C) m = _ ∧ _
  obtain ⟨L, e1, h1, _⟩ := t120 (n0 + 19 + C) base C (by omega) m
  obtain ⟨m1, G1, e2, h2, o2, x2, s2⟩ := t119 n0 base hbb hC hn0 C 0 C L m F (by omega) (by omega) (Nat.le_refl _) (by omega) hF fun i k g => by omega
  unfold r109
  rw [k1_fun, vcall_fun, len33, k2s, cv3u, wu_id (by omega) (by omega), k1s, show n0 + 21 + C = n0 + 19 + C + 2 by omega, e1, kcs]
  rw [show n0 + 19 + C + 2 = n0 + 21 + C by omega, show (.int .i64 0 : Value) = vi (0 : Nat) from rfl, e2, kcs]
  exact ⟨m1, G1, rfl, h2, o2, x2, s2⟩
theorem t109n (n base : Nat) (hn : 30 ≤ n) (m : M) : rt (n + 3) base 109 [nilS] m = some (.ret (.tuple #[]), m) := by
  rw [rt_imp (f := 109) (rf := rf109) (by kernel_rfl) (by kernel_rfl) (by kernel_rfl) (n + 2) base]
  show r109 (rt (n + 2)) (n + 2) base nilS m = _
  obtain ⟨L, e1, h1, _⟩ := t120 n base 0 (by omega) m
  unfold r109
  rw [k1_fun, vcall_fun, len33n, k2s, cv3u, wu_id (by omega) (by omega), k1s, show (vu 0 : Value) = vu ((0 : Nat) : Int) from rfl, e1, kcs, rt_imp (f := 119) (rf := rf119) (by kernel_rfl) (by kernel_rfl) (by kernel_rfl) (n + 1) base]
  obtain ⟨q, rfl⟩ : ∃ q, n = q + 1 := ⟨n - 1, by omega⟩
  show kc (r119 (rt (q + 2)) (q + 2) base nilS (vi 0) (vi 0) (vi L) m) _ _ = _
  unfold r119
  rw [r119_L0_s, sub3, k1s, show wr (0 - 0) = 0 from rfl, show (.int .i64 12 : Value) = vi 12 from rfl, leq3, k1s, show decide ((0 : Int) ≤ 12) = true from rfl, kbt, rt_imp (f := 123) (rf := rf123) (by kernel_rfl) (by kernel_rfl) (by kernel_rfl) (q + 1) base]
  have e3 : rf123 (rt (q + 1)) (q + 1) base [nilS, vi 0, vi 0] m = some (.ret (.tuple #[]), m) := by
    show r123 (rt (q + 1)) (q + 1) base nilS (vi 0) (vi 0) m = _
    unfold r123
    rw [k1_fun, show (.int .i64 1 : Value) = vi 1 from rfl, add3, k1s, show wr (0 + 1) = 1 from rfl, r123_L0_s, lss3, k1s, show decide ((1 : Int) < 0) = false from rfl, kbf]
  rw [e3, kcs, kcs]
end Go.AM
namespace Go.AM
open Go Go.Proofs
theorem r110_L0_s (call : CallF) (fuel base : Nat) (kr : Value → M → Res2) (kx0 : Value → M → Res2) (n : Nat) (x0 x3 : Value) (m : M) : r110_L0 call fuel base kr kx0 (n + 1) x0 x3 m =
    (k2 (vcalln E.P base m .len [33] [x0]) fun v12_3 m => (k1n (mbin E .lss 3 x3 v12_3) fun v13_4 => (kb v13_4 (k1n (mindexAddr E.P 33 x0 x3) fun v18_5 => (k1n (xload E.P m 3 v18_5) fun v19_6 => (k1n (mbin E .sub 3 x3 (.int .i64 1)) fun v22_7 => (k1n (mindexAddr E.P 33 x0 v22_7) fun v23_8 => (k1n (xload E.P m 3 v23_8) fun v24_9 => (k1n (mbin E .eql 3 v19_6 v24_9) fun v25_10 => (kb v25_10 (k1n (mslice E.P m 33 x0 (some x3) none none) fun v28_11 => (r110_L2 call fuel base (fun y0_26 y3_27 m => (k1n (mslice E.P m 33 y0_26 (some y3_27) none none) fun v56_28 => (k2 (vcalln E.P base m .clear [33] [v56_28]) fun vNone_29 m => (k1n (mslice E.P m 33 y0_26 none (some y3_27) none) fun v59_30 => (kr v59_30 m))))) fuel x0 x3 v28_11 (.int .i64 1) m)) (k1n (mbin E .add 3 x3 (.int .i64 1)) fun v15_31 => (r110_L0 call fuel base kr kx0 n x0 v15_31 m))))))))) (kx0 x0 m)))) := by
  unfold r110_L0
  rw [k1_fun, vcall_fun]
theorem r110_L2_s (call : CallF) (fuel base : Nat) (kx2 : Value → Value → M → Res2) (n : Nat) (x0 x3 x4 x5 : Value) (m : M) : r110_L2 call fuel base kx2 (n + 1) x0 x3 x4 x5 m =
    (k2 (vcalln E.P base m .len [33] [x4]) fun v31_12 m => (k1n (mbin E .lss 3 x5 v31_12) fun v32_13 => (kb v32_13 (k1n (mindexAddr E.P 33 x4 x5) fun v37_14 => (k1n (xload E.P m 3 v37_14) fun v38_15 => (k1n (mbin E .sub 3 x5 (.int .i64 1)) fun v41_16 => (k1n (mindexAddr E.P 33 x4 v41_16) fun v42_17 => (k1n (xload E.P m 3 v42_17) fun v43_18 => (k1n (mbin E .neq 3 v38_15 v43_18) fun v44_19 => (kb v44_19 (k1n (mindexAddr E.P 33 x4 x5) fun v49_20 => (k1n (xload E.P m 3 v49_20) fun v50_21 => (k1n (mindexAddr E.P 33 x0 x3) fun v51_22 => (ks (xstore E.P base m 3 v51_22 v50_21) fun m => (k1n (mbin E .add 3 x3 (.int .i64 1)) fun v53_23 => (k1n (mbin E .add 3 x5 (.int .i64 1)) fun v34_24 => (r110_L2 call fuel base kx2 n x0 v53_23 x4 v34_24 m))))))) (k1n (mbin E .add 3 x5 (.int .i64 1)) fun v34_25 => (r110_L2 call fuel base kx2 n x0 x3 x4 v34_25 m))))))))) (kx2 x0 x3 m)))) := by
  unfold r110_L2
  rw [k1_fun, vcall_fun]
theorem ixC (p off l c j : Nat) (h : j < l) : mindexAddr E.P 33 (slo p off l c) (vi j) = some (pt p (off + j)) := by
  have e : mindexAddr E.P 33 (slo p off l c) (vi j) = if 0 ≤ (j : Int) ∧ (j : Int) < l then some (.pointer (some ⟨p, off + ((j : Int)).toNat * 1, none⟩)) else none := by kernel_rfl
  rw [e, if_pos (by omega)]
  simp
theorem lenC (base : Nat) (m : M) (p off l c : Nat) : vcalln E.P base m .len [33] [slo p off l c] = some (vi l, m) := by kernel_rfl
theorem slC1 {e : Bool} {m : M} {p C : Nat} {F : Nat → Int} (h : ArrM e m p C F) {k : Nat} (hk : k ≤ C) : mslice E.P m 33 (sl p C) (some (vi k)) none none = some (slo p k (C - k) (C - k)) := by
  have e : mslice E.P m 33 (sl p C) (some (vi k)) none none = match optNat 0 (some (vi k)), some C, some 1 with
      | some l, some h, some size => if h ≤ C ∧ l ≤ h then (match m[p]? with
          | some row => if row.esz = size then some (.slice (some ⟨p, 0 + l * size, none⟩) (h - l) (C - l)) else none
          | none => none) else none
      | _, _, _ => none := by kernel_rfl
  have e2 : optNat 0 (some (vi k)) = some k := by
    have : optNat 0 (some (vi k)) = if (0 : Int) ≤ (k : Int) then some ((k : Int)).toNat else none := by kernel_rfl
    rw [this, if_pos (by omega), Int.toNat_natCast]
  rw [e, e2]
  simp only
  rw [if_pos ⟨Nat.le_refl _, hk⟩, h]
  simp [rowz]
theorem slC2 {e : Bool} {m : M} {p C : Nat} {F : Nat → Int} (h : ArrM e m p C F) {k : Nat} (hk : k ≤ C) : mslice E.P m 33 (sl p C) none (some (vi k)) none = some (slo p 0 k C) := by
  have e : mslice E.P m 33 (sl p C) none (some (vi k)) none = match some 0, optNat C (some (vi k)), some 1 with
      | some l, some h, some size => if h ≤ C ∧ l ≤ h then (match m[p]? with
          | some row => if row.esz = size then some (.slice (some ⟨p, 0 + l * size, none⟩) (h - l) (C - l)) else none
          | none => none) else none
      | _, _, _ => none := by kernel_rfl
  have e2 : optNat C (some (vi k)) = some k := by
    have : optNat C (some (vi k)) = if (0 : Int) ≤ (k : Int) then some ((k : Int)).toNat else none := by kernel_rfl
    rw [this, if_pos (by omega), Int.toNat_natCast]
  rw [e, e2]
  simp only
  rw [if_pos ⟨hk, Nat.zero_le _⟩, h]
  simp [rowz]
theorem clC {base : Nat} {e : Bool} {m : M} {p C : Nat} {F : Nat → Int} (h : ArrM e m p C F) (hb : base ≤ p) {k : Nat} (hk : k ≤ C) : ∃ m', (∀ K : Value → M → Res2, k2 (vcalln E.P base m .clear [33] [slo p k (C - k) (C - k)]) K = K (.tuple #[]) m') ∧ ArrM e m' p C (fun i => if i < k then F i else 0) ∧ m'.length = m.length ∧ ∀ i, i ≠ p → m'[i]? = m[i]? := by
  have hr := h
  unfold ArrM at hr
  have hlen : (repCells [.int .i64 0] (C - k) : List Value).length = C - k := repCells_len _ _
  have hall : (repCells [.int .i64 0] (C - k) : List Value).all (·.oneCell') = true := by
    rw [repCells_range1, List.all_eq_true]
    intro x hx
    obtain ⟨_, _, rfl⟩ := List.mem_map.1 hx
    rfl
  have e0 : vcalln E.P base m .clear [33] [slo p k (C - k) (C - k)] = (mwrite base m p k (repCells [.int .i64 0] (C - k))).map fun m' => (.tuple #[], m') := by kernel_rfl
  have hspl : (((List.range C).map fun j => vi (F j)).take k ++ (repCells [.int .i64 0] (C - k) ++ ((List.range C).map fun j => vi (F j)).drop (k + (C - k)))) = (List.range C).map fun j => vi (if j < k then F j else 0) := by
    refine List.ext_getElem (by simp [hlen]; omega) fun i h1 h2 => ?_
    have hi : i < C := by simpa using h2
    by_cases hik : i < k
    · rw [List.getElem_append_left (by simp; omega)]
      simp [hik]
    · rw [List.getElem_append_right (by simp; omega), List.getElem_append_left (by rw [hlen]; simp; omega)]
      simp only [repCells_range1, List.getElem_map, List.getElem_range, hik, if_false]
      rfl
  refine ⟨m.set p (rowz 1 e ((List.range C).map fun j => vi (if j < k then F j else 0))), fun K => ?_, ?_, by simp, fun i hi => List.getElem?_set_ne (Ne.symm hi)⟩
  · rw [e0]
    unfold mwrite
    rw [if_neg (by omega), hr]
    simp only [rowz, Bool.false_eq_true, if_false, hall, if_true, fList_eq, hlen]
    rw [if_pos (by simp; omega)]
    simp only [Option.map_some, k2s]
    show K _ (m.set p (rowz 1 e (splice ((List.range C).map fun j => vi (F j)) k (repCells [.int .i64 0] (C - k))))) = _
    have h2 : splice ((List.range C).map fun j => vi (F j)) k (repCells [.int .i64 0] (C - k)) = (List.range C).map fun j => vi (if j < k then F j else 0) := by
      rw [← hspl]
      unfold splice
      rw [hlen]
      try rw [List.append_assoc]
    rw [h2]
    rfl
  · show (m.set p _)[p]? = _
    rw [List.getElem?_set_self (List.getElem?_eq_some_iff.1 hr).1]
/-- The first k numbers grow, and are those of the first j ones. -/
def Uni (k j : Nat) (F G : Nat → Int) : Prop := (∀ s t, s < t → t < k → G s < G t) ∧ ∀ x, (∃ i, i < k ∧ G i = x) ↔ ∃ i, i < j ∧ F i = x
theorem Uni.same {k j : Nat} {F G : Nat → Int} (h : Uni k j F G) (hj : 1 ≤ j) (he : F j = F (j - 1)) : Uni k (j + 1) F G := by
  refine ⟨h.1, fun x => ?_⟩
  rw [h.2 x]
  constructor
  · rintro ⟨i, h1, h2⟩
    exact ⟨i, by omega, h2⟩
  · rintro ⟨i, h1, h2⟩
    by_cases e : i = j
    · exact ⟨j - 1, by omega, by rw [← he, ← e]; exact h2⟩
    · exact ⟨i, by omega, h2⟩
theorem Uni.more {k j : Nat} {F G : Nat → Int} (h : Uni k j F G) (hk : 1 ≤ k) (hl : G (k - 1) = F (j - 1)) (hlt : F (j - 1) < F j) : Uni (k + 1) (j + 1) F (fun i => if i = k then F j else G i) := by
  refine ⟨fun s t h1 h2 => ?_, fun x => ?_⟩
  · show (if s = k then F j else G s) < (if t = k then F j else G t)
    rw [if_neg (by omega)]
    by_cases e : t = k
    · rw [if_pos e]
      have : G s ≤ G (k - 1) := by
        by_cases e2 : s = k - 1
        · rw [e2]; exact Int.le_refl _
        · exact Int.le_of_lt (h.1 s (k - 1) (by omega) (by omega))
      omega
    · rw [if_neg e]
      exact h.1 s t h1 (by omega)
  · constructor
    · rintro ⟨i, h1, h2⟩
      have h3 : (if i = k then F j else G i) = x := h2
      by_cases e : i = k
      · rw [if_pos e] at h3
        exact ⟨j, by omega, h3⟩
      · rw [if_neg e] at h3
        obtain ⟨q, g1, g2⟩ := (h.2 x).1 ⟨i, by omega, h3⟩
        exact ⟨q, by omega, g2⟩
    · rintro ⟨i, h1, h2⟩
      by_cases e : i = j
      · exact ⟨k, by omega, by show (if k = k then F j else G k) = x; rw [if_pos rfl, ← e]; exact h2⟩
      · obtain ⟨q, g1, g2⟩ := (h.2 x).2 ⟨i, by omega, h2⟩
        exact ⟨q, by omega, by show (if q = k then F j else G q) = x; rw [if_neg (by omega)]; exact g2⟩
theorem loop110b (call : CallF) (fuel base : Nat) {e : Bool} {p C k0 : Nat} {F : Nat → Int} (hbb : base ≤ p) (hC : C ≤ 400000) (hk0 : k0 < C) (hS : Srt 0 C F) :
    ∀ (n k j : Nat) (m : M) (G : Nat → Int), ArrM e m p C G → 1 ≤ k → 1 ≤ j → k + 1 ≤ k0 + j → k0 + j ≤ C → Uni k (k0 + j) F G → G (k - 1) = F (k0 + j - 1) → (∀ i, k0 + j - 1 ≤ i → G i = F i) → C < n + (k0 + j) →
      ∃ (k' : Nat) (m' : M) (G' : Nat → Int), (∀ kx, r110_L2 call fuel base kx n (sl p C) (vi k) (slo p k0 (C - k0) (C - k0)) (vi j) m = kx (sl p C) (vi k') m') ∧ ArrM e m' p C G' ∧ m'.length = m.length ∧ (∀ r, r ≠ p → m'[r]? = m[r]?) ∧ 1 ≤ k' ∧ k' < C ∧ Uni k' C F G'
  | 0, k, j, m, G, hG, h1, h2, h3, h4, h5, h6, h7, hn => by omega
  | n + 1, k, j, m, G, hG, h1, h2, h3, h4, h5, h6, h7, hn => by
    by_cases hlt : j < C - k0
    · have ea : G (k0 + j) = F (k0 + j) := h7 _ (by omega)
      have eb : G (k0 + (j - 1)) = F (k0 + j - 1) := by rw [h7 _ (by omega)]; congr 1; omega
      have hle := hS (k0 + j - 1) (k0 + j) (by omega) (by omega) (by omega)
      have hld : ∀ (i : Nat), i < C - k0 → ∀ K : Value → Res2, (k1n (mindexAddr E.P 33 (slo p k0 (C - k0) (C - k0)) (vi i)) fun a => k1n (xload E.P m 3 a) K) = K (vi (G (k0 + i))) := fun i hi K => by
        rw [ixC _ _ _ _ _ hi, k1s, hG.ld (by omega), k1s]
      by_cases hne : F (k0 + j) = F (k0 + j - 1)
      · obtain ⟨k', m', G', z1, z2, z3, z4, z5, z6, z7⟩ := loop110b call fuel base hbb hC hk0 hS n k (j + 1) m G hG h1 (by omega) (by omega) (by omega) (h5.same (by omega) hne) (by rw [h6, ← hne]; congr 1) (fun i hi => h7 i (by omega)) (by omega)
        refine ⟨k', m', G', fun kx => ?_, z2, z3, z4, z5, z6, z7⟩
        rw [r110_L2_s, lenC, k2s, lss3, k1s, decide_eq_true (show (j : Int) < ((C - k0 : Nat) : Int) by omega), kbt, hld j hlt, sub1 j h2 (by omega), k1s, hld (j - 1) (by omega), ea, eb, neq3, k1s, decide_eq_true hne, Bool.not_true, kbf, add1 j (by omega), k1s]
        exact z1 kx
      · obtain ⟨m1, e1, G1, l1, o1⟩ := hG.st hbb (show k < C by omega) (F (k0 + j))
        obtain ⟨k', m', G', z1, z2, z3, z4, z5, z6, z7⟩ := loop110b call fuel base hbb hC hk0 hS n (k + 1) (j + 1) m1 _ G1 (by omega) (by omega) (by omega) (by omega) (h5.more h1 h6 (by omega)) (by rw [if_pos (by omega)]; congr 1) (fun i hi => by rw [if_neg (by omega)]; exact h7 i (by omega)) (by omega)
        refine ⟨k', m', G', fun kx => ?_, z2, z3.trans l1, fun r hr => (z4 r hr).trans (o1 r hr), z5, z6, z7⟩
        rw [r110_L2_s, lenC, k2s, lss3, k1s, decide_eq_true (show (j : Int) < ((C - k0 : Nat) : Int) by omega), kbt, hld j hlt, sub1 j h2 (by omega), k1s, hld (j - 1) (by omega), ea, eb, neq3, k1s, decide_eq_false hne, Bool.not_false, kbt, hld j hlt, ea, ix33 _ _ _ _ (show k < C by omega), k1s, e1, kss, add1 k (by omega), k1s, add1 j (by omega), k1s]
        exact z1 kx
    · have hj : k0 + j = C := by omega
      rw [hj] at h5
      refine ⟨k, m, G, fun kx => ?_, hG, rfl, fun _ _ => rfl, h1, by omega, h5⟩
      rw [r110_L2_s, lenC, k2s, lss3, k1s, decide_eq_false (show ¬ (j : Int) < ((C - k0 : Nat) : Int) by omega), kbf]
theorem loop110 (call : CallF) (fuel base : Nat) (kr kx : Value → M → Res2) (hkk : ∀ v m, kr v m = kx v m) {e : Bool} {p C : Nat} {F : Nat → Int} (hbb : base ≤ p) (hC : C ≤ 400000) (hS : Srt 0 C F) (hf : C + 2 ≤ fuel) {m : M} (hF : ArrM e m p C F) :
    ∀ (n k : Nat), 1 ≤ k → k ≤ C → Uni k k F F → C < n + k →
      ∃ (k' : Nat) (m' : M) (G' : Nat → Int), r110_L0 call fuel base kr kx n (sl p C) (vi k) m = kr (slo p 0 k' C) m' ∧ ArrM e m' p C G' ∧ m'.length = m.length ∧ (∀ r, r ≠ p → m'[r]? = m[r]?) ∧ 1 ≤ k' ∧ k' ≤ C ∧ Uni k' C F G'
  | 0, k, h1, h2, h3, hn => by omega
  | n + 1, k, h1, h2, h3, hn => by
    rw [r110_L0_s, lenC, k2s, lss3, k1s]
    by_cases hlt : k < C
    · have hle := hS (k - 1) k (by omega) (by omega) hlt
      rw [decide_eq_true (show (k : Int) < C by omega), kbt, hF.get (k := k) hlt, sub1 k h1 (by omega), k1s, hF.get (k := k - 1) (by omega), eql3, k1s]
      by_cases he : F k = F (k - 1)
      · obtain ⟨k', m1, G1, e1, a1, l1, o1, b1, b2, u1⟩ := loop110b call fuel base hbb hC hlt hS fuel k 1 m F hF h1 (Nat.le_refl _) (Nat.le_refl _) (by omega) (h3.same h1 he) (by rw [show k + 1 - 1 = k by omega]; exact he.symm) (fun i _ => rfl) (by omega)
        obtain ⟨m2, e2, a2, l2, o2⟩ := clC a1 hbb (show k' ≤ C by omega)
        rw [decide_eq_true he, kbt, slC1 hF h2, k1s, show (.int .i64 1 : Value) = vi (1 : Nat) from rfl, e1, slC1 a1 (by omega), k1s, e2, slC2 a2 (by omega), k1s]
        refine ⟨k', m2, _, rfl, a2, l2.trans l1, fun r hr => (o2 r hr).trans (o1 r hr), b1, by omega, ?_⟩
        refine ⟨fun s t g1 g2 => ?_, fun x => ?_⟩
        · show (if s < k' then G1 s else 0) < (if t < k' then G1 t else 0)
          rw [if_pos (by omega), if_pos g2]
          exact u1.1 s t g1 g2
        · rw [← u1.2 x]
          constructor
          · rintro ⟨i, g1, g2⟩
            have g3 : (if i < k' then G1 i else 0) = x := g2
            rw [if_pos g1] at g3
            exact ⟨i, g1, g3⟩
          · rintro ⟨i, g1, g2⟩
            exact ⟨i, g1, by show (if i < k' then G1 i else 0) = x; rw [if_pos g1]; exact g2⟩
      · rw [decide_eq_false he, kbf, add1 k (by omega), k1s]
        refine loop110 call fuel base kr kx hkk hbb hC hS hf hF n (k + 1) (by omega) (by omega) ⟨fun s t g1 g2 => ?_, fun x => Iff.rfl⟩ (by omega)
        by_cases e2 : t = k
        · rw [e2]
          by_cases e3 : s = k - 1
          · rw [e3]; omega
          · have := h3.1 s (k - 1) (by omega) (by omega)
            omega
        · exact h3.1 s t g1 (by omega)
    · have hk : k = C := by omega
      rw [decide_eq_false (show ¬ (k : Int) < C by omega), kbf, ← hkk]
      subst hk
      exact ⟨k, m, F, rfl, hF, rfl, fun _ _ => rfl, h1, Nat.le_refl _, h3⟩
end Go.AM
namespace Go.AM
open Go Go.Proofs
theorem t110 (n base : Nat) {e : Bool} {m : M} {p C : Nat} {F : Nat → Int} (hbb : base ≤ p) (hC : C ≤ 400000) (hC1 : 1 ≤ C) (hn : C + 2 ≤ n) (hF : ArrM e m p C F) (hS : Srt 0 C F) :
    ∃ (k' : Nat) (m' : M) (G' : Nat → Int), rt (n + 1) base 110 [sl p C] m = some (.ret (slo p 0 k' C), m') ∧ ArrM e m' p C G' ∧ m'.length = m.length ∧ (∀ r, r ≠ p → m'[r]? = m[r]?) ∧ 1 ≤ k' ∧ k' ≤ C ∧ Uni k' C F G' := by
  rw [rt_imp (f := 110) (rf := rf110) (by kernel_rfl) (by kernel_rfl) (by kernel_rfl) n base]
  show ∃ (k' : Nat) (m' : M) (G' : Nat → Int), r110 (rt n) n base (sl p C) m = _ ∧ _
  unfold r110
  rw [k1_fun, fVal_fun, vcall_fun, lenC, k2s, show (.int .i64 2 : Value) = vi (2 : Nat) from rfl, lss3, k1s]
  by_cases h2 : C < 2
  · have : C = 1 := by omega
    subst this
    rw [decide_eq_true (show ((1 : Nat) : Int) < (2 : Nat) by omega), kbt]
    exact ⟨1, m, F, rfl, hF, rfl, fun _ _ => rfl, Nat.le_refl _, Nat.le_refl _, fun s t g1 g2 => by omega, fun x => Iff.rfl⟩
  · rw [decide_eq_false (show ¬ (C : Int) < (2 : Nat) by omega), kbf, show (.int .i64 1 : Value) = vi (1 : Nat) from rfl]
    exact loop110 (rt n) n base (fun v m => some (.ret v, m)) (fun v m => some (.ret v, m)) (fun _ _ => rfl) hbb hC hS hn hF n 1 (Nat.le_refl _) hC1 ⟨fun s t g1 g2 => by omega, fun x => Iff.rfl⟩ (by omega)
theorem t110n (n base : Nat) (m : M) : rt (n + 1) base 110 [nilS] m = some (.ret nilS, m) := by
  rw [rt_imp (f := 110) (rf := rf110) (by kernel_rfl) (by kernel_rfl) (by kernel_rfl) n base]
  show r110 (rt n) n base nilS m = _
  unfold r110
  rw [k1_fun, fVal_fun, vcall_fun, len33n, k2s, show (.int .i64 2 : Value) = vi 2 from rfl, lss3, k1s, show decide ((0 : Int) < 2) = true from rfl, kbt]
theorem arr_of {m : M} {r : Nat} {l : List Int} {e : Bool} (h : m[r]? = some (rowz 1 e (l.map vi))) : ArrM e m r l.length (fun i => l.getD i 0) := by
  unfold ArrM
  rw [h]
  congr 2
  refine List.ext_getElem (by simp) fun i h1 h2 => ?_
  have hi : i < l.length := by simpa using h1
  simp only [List.getElem_map, List.getElem_range]
  rw [List.getD_eq_getElem?_getD, List.getElem?_eq_getElem hi]
  rfl
/-- A list of numbers that grow, those of another list. -/
def Dist (l l' : List Int) : Prop := l'.Pairwise (· < ·) ∧ ∀ x, x ∈ l' ↔ x ∈ l
theorem dist_uniq : ∀ {a b : List Int}, a.Pairwise (· < ·) → b.Pairwise (· < ·) → (∀ x, x ∈ a ↔ x ∈ b) → a = b
  | [], [], _, _, _ => rfl
  | [], y :: b, _, _, h => by have := (h y).2 (by simp); simp at this
  | x :: a, [], _, _, h => by have := (h x).1 (by simp); simp at this
  | x :: a, y :: b, ha, hb, h => by
    rw [List.pairwise_cons] at ha hb
    have e : x = y := by
      have h1 := (h x).1 (by simp)
      have h2 := (h y).2 (by simp)
      rcases List.mem_cons.1 h1 with h1 | h1
      · exact h1
      · rcases List.mem_cons.1 h2 with h2 | h2
        · exact h2.symm
        · have := hb.1 x h1
          have := ha.1 y h2
          omega
    subst e
    rw [dist_uniq ha.2 hb.2 fun z => ?_]
    constructor
    · intro hz
      have := (h z).1 (by simp [hz])
      rcases List.mem_cons.1 this with e | g
      · have := ha.1 z hz; omega
      · exact g
    · intro hz
      have := (h z).2 (by simp [hz])
      rcases List.mem_cons.1 this with e | g
      · have := hb.1 z hz; omega
      · exact g
/-- slices.Sort and then slices.Compact. -/
theorem sortC (n base : Nat) {m : M} {b : Nat} {v : Value} {l : List Int} (hG : Grow 1 b m v (l.map vi) l.length) (hbb : base ≤ b) (hl : l.length ≤ 400000) (hn : 2 * l.length + 100 ≤ n) :
    ∃ (m1 m2 : M) (u : Value) (l' : List Int), rt n base 109 [v] m = some (.ret (.tuple #[]), m1) ∧ rt n base 110 [v] m1 = some (.ret u, m2) ∧ Ints m2 u l' ∧ Dist l l' ∧ Keeps b m m2 ∧ l'.length ≤ l.length ∧ ∀ i, i < m.length → (∀ n0, v ≠ sl i n0) → m2[i]? = m[i]? := by
  rcases hG with ⟨h1, h2, h3⟩ | ⟨r, h1, h2, h3, h4, h5⟩
  · have hl0 : l = [] := List.eq_nil_of_length_eq_zero h1
    subst hl0
    obtain ⟨q, rfl⟩ : ∃ q, n = q + 3 := ⟨n - 3, by omega⟩
    subst h2
    exact ⟨m, m, nilS, [], t109n q base (by simp at hn; omega) m, t110n (q + 2) base m, .inl ⟨rfl, .inl rfl⟩, ⟨List.Pairwise.nil, fun x => Iff.rfl⟩, Keeps.refl _ _, Nat.le_refl _, fun _ _ _ => rfl⟩
  · subst h3
    have hA := arr_of h4
    obtain ⟨q, hq⟩ : ∃ q, n = (q + l.length) + 22 + l.length := ⟨n - 22 - 2 * l.length, by omega⟩
    obtain ⟨m1, F1, e1, a1, o1, x1, s1⟩ := t109 (q + l.length) base (show base ≤ r by omega) hl (by omega) hA
    rw [← hq] at e1
    obtain ⟨k, m2, G, e2, a2, l2, o2, b1, b2, u2⟩ := t110 (n - 1) base (show base ≤ r by omega) hl h1 (by omega) a1 s1
    rw [show n - 1 + 1 = n by omega] at e2
    have hmem : ∀ x, (∃ i, i < l.length ∧ F1 i = x) ↔ x ∈ l := fun x => by
      constructor
      · rintro ⟨i, g1, g2⟩
        obtain ⟨j, g3, g4, g5⟩ := x1.2.1 i (Nat.zero_le _) g1
        have g6 : F1 i = l.getD j 0 := g5
        rw [← g2, g6, List.getD_eq_getElem?_getD, List.getElem?_eq_getElem g4]
        exact List.getElem_mem g4
      · intro hx
        obtain ⟨j, g1, g2⟩ := List.mem_iff_getElem.1 hx
        obtain ⟨i, g3, g4, g5⟩ := x1.2.2 j (Nat.zero_le _) g1
        refine ⟨i, g4, ?_⟩
        have g6 : F1 i = l.getD j 0 := g5
        rw [g6, List.getD_eq_getElem?_getD, List.getElem?_eq_getElem g1]
        exact g2
    refine ⟨m1, m2, slo r 0 k l.length, (List.range k).map G, e1, e2, ?_, ⟨?_, fun x => ?_⟩, ⟨by rw [l2]; exact o1.1, fun i hi => ?_⟩, by simpa using b2, fun i hi hv => ?_⟩
    · refine .inr ⟨r, 0, l.length, _, by simp, by simpa using b2, a2, rfl, ?_, fun j hj => ?_⟩
      · show 0 + ((List.range k).map G).length ≤ ((List.range l.length).map fun j => vi (G j)).length
        simp only [List.length_map, List.length_range]
        omega
      · have hj' : j < k := by simpa using hj
        show ((List.range l.length).map fun j => vi (G j))[0 + j]? = _
        rw [Nat.zero_add, List.getElem?_map, List.getElem?_range (by omega)]
        simp
    · rw [List.pairwise_map]
      refine (List.pairwise_lt_range (n := k)).imp_of_mem fun {a b} ha hb hab => ?_
      exact u2.1 a b hab (by simpa using hb)
    · rw [← hmem x, ← u2.2 x]
      simp
    · have hml : r < m.length := (List.getElem?_eq_some_iff.1 h4).1
      rw [o2 i (by omega), o1.2 i (by omega) (by omega)]
    · have hne : i ≠ r := fun e => hv l.length (by rw [e])
      rw [o2 i hne, o1.2 i hi hne]
end Go.AM
namespace Go.AM
open Go Go.Proofs
/-- Memory for a walk: lists of counts at ps + 1, ps + 2 .. -/
structure SM (m : M) (ps N C : Nat) (Fs : Nat → Nat → Nat) : Prop where
  hs : m[ps]? = some (rowz 1 true ((List.range N).map fun i => sl (ps + 1 + i) C))
  hv : ∀ i, i < N → VecM m (ps + 1 + i) C (Fs i)
theorem SM.get {m : M} {ps N C : Nat} {Fs : Nat → Nat → Nat} (h : SM m ps N C Fs) {i : Nat} (hi : i < N) (K : Value → Res2) : (k1n (mindexAddr E.P 23 (sl ps N) (vi i)) fun a => k1n (xload E.P m 33 a) K) = K (sl (ps + 1 + i) C) := by
  rw [ix23 _ _ _ _ hi, k1s, ld33]
  unfold mcell
  rw [h.hs]
  show k1n (((List.range N).map fun i => (sl (ps + 1 + i) C : Value))[i]?) K = _
  rw [List.getElem?_map, List.getElem?_range hi]
  rfl
end Go.AM
namespace Go.AM
open Go Go.Proofs
def colT (t : Wg) : Prop := col t.1 ∧ col t.2.1 ∧ col t.2.2.1 ∧ col t.2.2.2
theorem colNat {x : Int} (h : col x) : ∃ k : Nat, x = k ∧ k < 8 := ⟨x.toNat, by unfold col at h; omega, by unfold col at h; omega⟩
/-- The Norths that are asked, or none. -/
def NV (m : M) (x1 : Value) (no : Nat → Option Int) (w : Nat) : Prop := (x1 = nilS ∧ ∀ x, no x = none) ∨ ∃ nn, Ints m x1 nn ∧ nn.length = w ∧ 1 ≤ w ∧ ∀ x, no x = some (nn.getD x 0)
theorem NV.keeps {m m' : M} {x1 : Value} {no : Nat → Option Int} {w : Nat} (h : NV m x1 no w) (hk : Keeps m.length m m') : NV m' x1 no w := by
  rcases h with h | ⟨nn, h1, h2⟩
  · exact .inl h
  · exact .inr ⟨nn, h1.keeps hk, h2⟩
end Go.AM
namespace Go.AM
open Go Go.Proofs
theorem isS_facts {l : List Wg} (h : isS l = true) : 1 ≤ l.length ∧ l.length ≤ 16 ∧ ∀ t ∈ l, colT t := by
  unfold isS at h
  simp only [Bool.and_eq_true, decide_eq_true_eq] at h
  refine ⟨h.1, h.2.1, fun t ht => ?_⟩
  obtain ⟨i, hi, rfl⟩ := List.mem_iff_getElem.1 ht
  have := allFrom_iff.1 h.2.2 i (Nat.zero_le _) (by omega)
  rw [okAt_eq hi, Bool.and_eq_true] at this
  have h1 := this.1
  unfold okT at h1
  simp only [Bool.and_eq_true, Bool.not_eq_true'] at h1
  have key : ∀ d, badc d = false → col d := fun d hd => by
    unfold badc at hd
    simp only [Bool.or_eq_false_iff, decide_eq_false_iff_not] at hd
    unfold col; omega
  exact ⟨key _ h1.1, key _ h1.2.1, key _ h1.2.2.1, key _ h1.2.2.2⟩
end Go.AM
namespace Go.AM
open Go Go.Proofs
theorem SM.keeps {m m' : M} {ps N C : Nat} {Fs : Nat → Nat → Nat} (h : SM m ps N C Fs) (hk : Keeps m.length m m') : SM m' ps N C Fs :=
  ⟨(hk.2 _ (List.getElem?_eq_some_iff.1 h.hs).1).trans h.hs, fun i hi => (hk.2 _ (List.getElem?_eq_some_iff.1 (h.hv i hi)).1).trans (h.hv i hi)⟩
end Go.AM
namespace Go.AM
open Go Go.Proofs
/-- Where a colour stands in a list. -/
def idxC : List Int → Int → Nat → Int
  | [], _, _ => -1
  | a :: l, c, i => if a = c then i else idxC l c (i + 1)
theorem idxC_mem : ∀ {l : List Int} {c : Int} {i : Nat}, c ∈ l → ∃ k : Nat, idxC l c i = ((i + k : Nat) : Int) ∧ k < l.length ∧ l.getD k 0 = c
  | [], c, i, h => by simp at h
  | a :: l, c, i, h => by
    show ∃ k : Nat, (if a = c then (i : Int) else idxC l c (i + 1)) = _ ∧ _
    by_cases e : a = c
    · exact ⟨0, by simp [e], by simp, e⟩
    · have hm : c ∈ l := by
        rcases List.mem_cons.1 h with h | h
        · exact absurd h.symm e
        · exact h
      obtain ⟨k, h1, h2, h3⟩ := idxC_mem (i := i + 1) hm
      exact ⟨k + 1, by rw [if_neg e, h1]; omega, by simp; omega, h3⟩
/-- What a tile must be at a place, when the digits of the columns and the East on the left are these. -/
def okD (ls : List Int) (w p : Nat) (g : Nat → Nat) (e : Int) (t : Wg) : Bool := (decide (p < w) || decide (ls.getD (g (p % w)) 0 = t.1)) && (decide (p % w = 0) || decide (e = t.2.2.2))
def updG (g : Nat → Nat) (x a : Nat) : Nat → Nat := fun j => if j = x then a else g j
def digS (ls : List Int) (t : Wg) : Nat := (idxC ls t.2.2.1 0).toNat
def acc (l : List Wg) (ls : List Int) (w : Nat) : Nat → (Nat → Nat) → Int → List Nat → Prop
  | _, _, _, [] => True
  | p, g, e, i :: q => i < l.length ∧ okD ls w p g e (tl l i) = true ∧ acc l ls w (p + 1) (updG g (p % w) (digS ls (tl l i))) (tl l i).2.1 q
end Go.AM
namespace Go.AM
open Go Go.Proofs
theorem RM.push {g : Bool} {b : Nat} {m : M} {v : Value} {ls : List (List Int)} (h : RM g b m v ls) (x : List Row) : RM g b (m ++ x) v ls := h.keeps (Keeps.push _ _ (Nat.le_refl _) _)
/-- One list more; no cell is touched. -/
theorem RM.one {b base : Nat} {m : M} {v : Value} {ls : List (List Int)} (h : RM true b m v ls) (hbb : base ≤ b) (hbm : b ≤ m.length) (hl : ls.length ≤ 1000) {p n : Nat} {k : List Int} (hk : Ints m (sl p n) k) (hne : k ≠ []) :
    ∃ (r : Nat) (m' : M), (∀ K : Value → M → Res2, (k2 (xbuildSlice E.P m 23 1 [(0, sl p n)]) fun w m => k2 (vcalln E.P base m .append [23, 23] [v, w]) K) = K (sl r (ls.length + 1)) m') ∧ RM true b m' (sl r (ls.length + 1)) (ls ++ [k]) ∧ Keeps b m m' ∧ ∀ (i : Nat) (cs : List Value), m[i]? = some (cellR cs) → m'[i]? = some (cellR cs) := by
  have hw : (m ++ [rowz 1 true [sl p n]])[m.length]? = some (rowz 1 true [sl p n]) := by simp
  have hk1 : Ints (m ++ [rowz 1 true [sl p n]]) (sl p n) k := hk.app _
  rcases h with ⟨rfl, rfl⟩ | ⟨q, ex, us, b1, b2, rfl, b4, b5, b6, b7⟩
  · refine ⟨m.length + 1, (m ++ [rowz 1 true [sl p n]]) ++ [rowz 1 false [sl p n]], fun K => ?_, .inr ⟨m.length + 1, false, [sl p n], fun _ => rfl, by omega, by simp, by simp, by simp, by simp, fun j h1 h2 => ?_⟩, (Keeps.push _ _ hbm _).trans (Keeps.push _ _ (by simp; omega) _), fun i cs hi => ?_⟩
    · rw [show (sl p n : Value) = slo p 0 n n from rfl, gb23_1, k2s, ga23e, ga23nil base _ m.length 1 1 _ hw rfl (by omega) (by omega), k2s]
      simp [rowz]
    · have : j = 0 := by simp at h1; exact h1
      subst this
      exact ⟨hk1.app _, hne⟩
    · have := (List.getElem?_eq_some_iff.1 hi).1
      rw [List.getElem?_append_left (by simp; omega), List.getElem?_append_left this]
      exact hi
  · obtain rfl := b1 rfl
    have hql := (List.getElem?_eq_some_iff.1 b4).1
    have b4' : (m ++ [rowz 1 true [sl p n]])[q]? = some (rowz 1 false us) := by rw [List.getElem?_append_left hql]; exact b4
    have hsl : ∀ x ∈ us, ∃ a n c, x = Value.slice a n c := fun x hx => by
      obtain ⟨a, n, c, e⟩ := RM.us (g := true) b5 b7 x hx
      exact ⟨_, _, _, e⟩
    refine ⟨m.length + 1, (m ++ [rowz 1 true [sl p n]]).set q (rowz 1 false []) ++ [rowz 1 false (us ++ [sl p n])], fun K => ?_, .inr ⟨m.length + 1, false, us ++ [sl p n], fun _ => rfl, by omega, by simp, by simp, by simp [b5], by simp, fun j h1 h2 => ?_⟩, ((Keeps.push _ _ hbm _).trans (Keeps.set b _ q _ b2)).trans (Keeps.push b _ (by simp; omega) _), fun i cs hi => ?_⟩
    · rw [show (sl p n : Value) = slo p 0 n n from rfl, gb23_1, k2s, ga23e, ga23some base _ q ls.length m.length 1 1 false us _ b4' (by omega) (.inr b6) (by omega) (by omega) (by omega) (Nat.le_trans hbb b2) hw rfl rfl, k2s]
      simp [rowz]
    · by_cases hj : j < us.length
      · rw [List.getElem_append_left hj, List.getElem_append_left (by omega)]
        obtain ⟨c1, c2⟩ := b7 j hj (by omega)
        exact ⟨((c1.app _).kill c2 b4' hsl _).app _, c2⟩
      · have hj2 : j = us.length := by simp at h1; omega
        subst hj2
        have e1 : (us ++ [sl p n])[us.length] = sl p n := by simp
        have e2 : (ls ++ [k])[us.length] = k := by rw [List.getElem_append_right (by omega)]; simp
        rw [e1, e2]
        exact ⟨(hk1.kill hne b4' hsl _).app _, hne⟩
    · have hil := (List.getElem?_eq_some_iff.1 hi).1
      have hne2 : q ≠ i := by
        rintro rfl
        rw [b4] at hi
        simp [cellR, rowz] at hi
      rw [List.getElem?_append_left (by simp; omega), List.getElem?_set_ne hne2, List.getElem?_append_left hil]
      exact hi
theorem SM.app {m : M} {ps N C : Nat} {Fs : Nat → Nat → Nat} (h : SM m ps N C Fs) (x : List Row) : SM (m ++ x) ps N C Fs := h.keeps (Keeps.push _ _ (Nat.le_refl _) _)
end Go.AM
namespace Go.AM
open Go Go.Proofs
/-- The lists of ways: those from place p on are there. -/
structure WM (m : M) (po T C p : Nat) (F : Nat → Nat → Nat) : Prop where
  hs : m[po]? = some (rowz 1 true ((List.range (T + 1)).map fun j => if p ≤ j then sl (po + 1 + (T - j)) C else nilS))
  hv : ∀ j, p ≤ j → j ≤ T → VecM m (po + 1 + (T - j)) C (F j)
theorem WM.get {m : M} {po T C p : Nat} {F : Nat → Nat → Nat} (h : WM m po T C p F) {j : Nat} (h1 : p ≤ j) (h2 : j ≤ T) (K : Value → Res2) : (k1n (mindexAddr E.P 23 (sl po (T + 1)) (vi j)) fun a => k1n (xload E.P m 33 a) K) = K (sl (po + 1 + (T - j)) C) := by
  rw [ix23 _ _ _ _ (by omega), k1s, ld33]
  unfold mcell
  rw [h.hs]
  show k1n (((List.range (T + 1)).map fun j => if p ≤ j then (sl (po + 1 + (T - j)) C : Value) else nilS)[j]?) K = _
  rw [List.getElem?_map, List.getElem?_range (by omega)]
  show k1n (some (if p ≤ j then (sl (po + 1 + (T - j)) C : Value) else nilS)) K = _
  rw [if_pos h1]
  rfl
end Go.AM
namespace Go.AM
open Go Go.Proofs
theorem Tiles.at {m m' : M} {v : Value} {l : List Wg} (h : Tiles m v l) (hk : ∀ i, i < m.length → m'[i]? = m[i]?) : Tiles m' v l := by
  rcases h with h | ⟨p, off, c, row, h1, h2, h3, h4⟩
  · exact .inl h
  · exact .inr ⟨p, off, c, row, h1, h2, (hk p (List.getElem?_eq_some_iff.1 h3).1).trans h3, h4⟩
end Go.AM
namespace Go.AM
open Go Go.Proofs
/-- A number from its digits, the lowest first. -/
def vS (n : Nat) : List Nat → Nat
  | [] => 0
  | d :: ds => d + n * vS n ds
end Go.AM
namespace Go.AM
open Go Go.Proofs
theorem Mats.at {m m' : M} {v : Value} {l : List (List Int)} (h : Mats m v l) (hk : ∀ i, i < m.length → m'[i]? = m[i]?) : Mats m' v l := by
  rcases h with h | ⟨p, off, c, row, h1, h2, h3, h4, h5, h6⟩
  · exact .inl h
  · refine .inr ⟨p, off, c, row, h1, h2, (hk p (List.getElem?_eq_some_iff.1 h3).1).trans h3, h4, h5, fun j hj => ?_⟩
    obtain ⟨u, a, b⟩ := h6 j hj
    exact ⟨u, a, b.at hk⟩
/-- A matrix in memory. -/
def MatM (m : M) (v : Value) (C : Nat) (F : Nat → Nat → Nat) : Prop := Mats m v ((List.range C).map fun a => (List.range C).map fun b => ((F a b : Nat) : Int))
theorem MatM.len {m : M} {v : Value} {C : Nat} {F : Nat → Nat → Nat} (h : MatM m v C F) (base : Nat) : vcalln E.P base m .len [23] [v] = some (vi C, m) := by
  have := Mats.len h base
  rwa [List.length_map, List.length_range] at this
theorem MatM.get {m : M} {v : Value} {C : Nat} {F : Nat → Nat → Nat} (h : MatM m v C F) {a b : Nat} (ha : a < C) (hb : b < C) (K : Value → Res2) : (k1n (mindexAddr E.P 23 v (vi a)) fun x => k1n (xload E.P m 33 x) fun y => k1n (mindexAddr E.P 33 y (vi b)) fun z => k1n (xload E.P m 3 z) K) = K (vi (F a b)) := by
  obtain ⟨u, h1, h2⟩ := Mats.get h (j := a) (by simpa using ha)
  have e : ((List.range C).map fun a => (List.range C).map fun b => ((F a b : Nat) : Int))[a]'(by simpa using ha) = (List.range C).map fun b => ((F a b : Nat) : Int) := by simp
  rw [e] at h1
  rw [h2, h1.get (j := b) (by simpa using hb)]
  simp
end Go.AM
namespace Go.AM
open Go Go.Proofs
theorem r111_L0_s (call : CallF) (fuel base : Nat) (kr : Value → M → Res2) (kx0 : M → Res2) (n : Nat) (x0 x1 x7 x8 : Value) (m : M) : r111_L0 call fuel base kr kx0 (n + 1) x0 x1 x7 x8 m =
    (k1n (mbin E .lss 3 x8 x7) fun v9_2 => (kb v9_2 (k1n (mindexAddr E.P 33 x0 x8) fun v14_3 => (k1n (xload E.P m 3 v14_3) fun v15_4 => (k1n (mbin E .eql 3 x1 v15_4) fun v16_5 => (kb v16_5 (kr x8 m) (k1n (mbin E .add 3 x8 (.int .i64 1)) fun v18_6 => (r111_L0 call fuel base kr kx0 n x0 x1 x7 v18_6 m)))))) (kx0 m))) := by
  unfold r111_L0
  rw [k1_fun]
theorem loop111 (call : CallF) (fuel base : Nat) (kr : Value → M → Res2) {m : M} {v : Value} {l : List Int} (hI : Ints m v l) (hl : l.length ≤ 100000) (c : Int) :
    ∀ (n i : Nat), i ≤ l.length → l.length < n + i → r111_L0 call fuel base kr (fun m => kr (vi (-1)) m) n v (vi c) (vi l.length) (vi i) m = kr (vi (idxC (l.drop i) c i)) m
  | 0, i, h1, hn => by omega
  | n + 1, i, h1, hn => by
    rw [r111_L0_s, lss3, k1s]
    by_cases hlt : i < l.length
    · rw [decide_eq_true (show (i : Int) < l.length by omega), kbt, hI.get hlt, eql3, k1s, List.drop_eq_getElem_cons hlt]
      show _ = kr (vi (if l[i] = c then (i : Int) else idxC (l.drop (i + 1)) c (i + 1))) m
      by_cases e : c = l[i]
      · rw [decide_eq_true e, kbt, if_pos e.symm]
      · rw [decide_eq_false e, kbf, if_neg (fun h => e h.symm), add1 i (by omega), k1s]
        exact loop111 call fuel base kr hI hl c n (i + 1) (by omega) (by omega)
    · rw [decide_eq_false (show ¬ (i : Int) < l.length by omega), kbf, List.drop_eq_nil_of_le (by omega)]
      rfl
theorem t111 (n base : Nat) {m : M} {v : Value} {l : List Int} (hI : Ints m v l) (hl : l.length ≤ 100000) (hn : l.length < n) (c : Int) : rt (n + 1) base 111 [v, vi c] m = some (.ret (vi (idxC l c 0)), m) := by
  refine rt_pure (f := 111) (rf := rf111) (by kernel_rfl) (by kernel_rfl) (by kernel_rfl) n base _ m m _ ?_ rfl
  show r111 (rt n) n m.length v (vi c) m = _
  unfold r111
  rw [fVal_fun, vcall_fun, hI.len, k2s, i0]
  have := loop111 (rt n) n m.length (fun v m => some (.ret v, m)) hI hl c n 0 (Nat.zero_le _) (by omega)
  rw [List.drop_zero] at this
  exact this
theorem r78_L0_s (call : CallF) (fuel base : Nat) (kx0 : Value → M → Res2) (n : Nat) (x1 x5 x11 x12 x13 : Value) (m : M) : r78_L0 call fuel base kx0 (n + 1) x1 x5 x11 x12 x13 m =
    (k1n (mbin E .lss 3 x13 x12) fun v14_4 => (kb v14_4 (k1n (mindexAddr E.P 22 x11 x13) fun v16_5 => (k1n (xload E.P m 45 v16_5) fun v17_6 => (k2 (xalloc E.P m 45) fun v7_7 m => (ks (xstore E.P base m 45 v7_7 v17_6) fun m => (k1n (mfieldAddr E.P 45 v7_7 1) fun v19_8 => (k1n (xload E.P m 3 v19_8) fun v20_9 => (kc (kB m (call m.length 111 [x1, v20_9] m)) (fun v21_10 m => (k1n (mfieldAddr E.P 45 v7_7 3) fun v23_11 => (k1n (xload E.P m 3 v23_11) fun v24_12 => (kc (kB m (call m.length 111 [x1, v24_12] m)) (fun v25_13 m => (k1n (mfieldAddr E.P 45 v7_7 1) fun v26_14 => (ks (xstore E.P base m 3 v26_14 v21_10) fun m => (k1n (mfieldAddr E.P 45 v7_7 3) fun v27_15 => (ks (xstore E.P base m 3 v27_15 v25_13) fun m => (k1n (xload E.P m 45 v7_7) fun v30_16 => (k1n (mindexAddr E.P 22 x5 x13) fun v31_17 => (ks (xstore E.P base m 45 v31_17 v30_16) fun m => (k1n (mbin E .add 3 x13 (.int .i64 1)) fun v32_18 => (r78_L0 call fuel base kx0 n x1 x5 x11 x12 v32_18 m)))))))))) (fun _ _ => none))))) (fun _ _ => none)))))))) (kx0 x5 m))) := by
  unfold r78_L0
  rw [k1_fun]
/-- A slice of N tiles whose first ones are l. -/
def TilA (m : M) (p N : Nat) (l : List Wg) : Prop := m[p]? = some (rowz 4 true (l.flatMap tC ++ repCells [vi 0, vi 0, vi 0, vi 0] (N - l.length)))
theorem mkM22 (m : M) (n : Nat) (h : n ≤ 100000) : xmakeSlice E.P m 22 (vi n) (vi n) = some (sl m.length n, m ++ [rowz 4 true (repCells [vi 0, vi 0, vi 0, vi 0] n)]) := by
  have e : xmakeSlice E.P m 22 (vi n) (vi n) = if ((n : Int) < 0 ∨ (n : Int) < n ∨ (n : Int) > 2 ^ 40 ∨ 32 > 2 ^ 7) then none else
    xlen m fun k => fNat n fun l => fNat n fun c => fList (repCells [vi 0, vi 0, vi 0, vi 0] c) fun cs => xpush m (rowz 4 true cs) fun m' => some (.slice (some ⟨k, 0, none⟩) l c, m') := by kernel_rfl
  rw [e, if_neg (by omega), xlen_eq, fNat_eq, fNat_eq, fNat_eq, fList_eq, xpush_eq, fList_eq]
theorem rep4_len (n : Nat) : (repCells [vi 0, vi 0, vi 0, vi 0] n).length = n * 4 := repCells_length _ n
theorem st45A {base : Nat} {m : M} {p N : Nat} {l : List Wg} (hb : base ≤ p) (h : TilA m p N l) (hl : l.length < N) (t : Wg) : ∃ m', xstore E.P base m 45 (pt p (l.length * 4)) (tV t) = some m' ∧ TilA m' p N (l ++ [t]) ∧ m'.length = m.length ∧ ∀ r, r ≠ p → m'[r]? = m[r]? := by
  have e : xstore E.P base m 45 (pt p (l.length * 4)) (tV t) = xwrite base m p (l.length * 4) (tC t) := by kernel_rfl
  have hr := h
  unfold TilA at hr
  have hlen : (l.flatMap tC).length = l.length * 4 := flatC_len l
  obtain ⟨k, hk⟩ : ∃ k, N - l.length = k + 1 := ⟨N - l.length - 1, by omega⟩
  have hspl : splice (l.flatMap tC ++ repCells [vi 0, vi 0, vi 0, vi 0] (N - l.length)) (l.length * 4) (tC t) = (l ++ [t]).flatMap tC ++ repCells [vi 0, vi 0, vi 0, vi 0] (N - (l ++ [t]).length) := by
    unfold splice
    rw [hk, show N - (l ++ [t]).length = k by simp; omega, List.take_append, ← hlen, List.take_length, Nat.sub_self, List.take_zero, List.append_nil, List.drop_append]
    rw [List.drop_eq_nil_of_le (by omega), List.nil_append, Nat.add_sub_cancel_left]
    show l.flatMap tC ++ tC t ++ repCells [vi 0, vi 0, vi 0, vi 0] k = _
    simp
  refine ⟨m.set p (rowz 4 true ((l ++ [t]).flatMap tC ++ repCells [vi 0, vi 0, vi 0, vi 0] (N - (l ++ [t]).length))), ?_, ?_, by simp, fun r hr => List.getElem?_set_ne (Ne.symm hr)⟩
  · rw [e, xwrite_eq]
    unfold mwrite
    rw [if_neg (by omega), hr]
    simp only [rowz, Bool.false_eq_true, if_false, fList_eq]
    rw [if_pos (by rw [List.length_append, hlen, rep4_len]; show _ + 4 ≤ _; omega), if_pos (show ((tC t).all fun x => x.oneCell') = true from rfl), hspl]
  · show (m.set p _)[p]? = _
    rw [List.getElem?_set_self (List.getElem?_eq_some_iff.1 hr).1]
theorem TilA.tiles {m : M} {p : Nat} {l : List Wg} (h : TilA m p l.length l) : Tiles m (sl p l.length) l := by
  refine .inr ⟨p, 0, l.length, _, rfl, Nat.le_refl _, h, rfl, ?_, fun j hj => ?_⟩
  · show 0 + l.length * 4 ≤ (l.flatMap tC ++ repCells [vi 0, vi 0, vi 0, vi 0] (l.length - l.length)).length
    rw [List.length_append, flatC_len]
    omega
  · show ((l.flatMap tC ++ repCells [vi 0, vi 0, vi 0, vi 0] (l.length - l.length)).drop (0 + j * 4)).take 4 = _
    rw [Nat.sub_self, show repCells [vi 0, vi 0, vi 0, vi 0] 0 = [] from rfl, List.append_nil, Nat.zero_add]
    exact flatC_cell l j hj
end Go.AM
namespace Go.AM
open Go Go.Proofs
def rnT (P : List Int) (t : Wg) : Wg := (t.1, idxC P t.2.1 0, t.2.2.1, idxC P t.2.2.2 0)
theorem boxF {m : M} {q : Nat} {a b c d : Int} (h : m[q]? = some (cellR [vi a, vi b, vi c, vi d])) : (∀ K : Value → Res2, (k1n (mfieldAddr E.P 45 (pt q 0) 1) fun x => k1n (xload E.P m 3 x) K) = K (vi b)) ∧ (∀ K : Value → Res2, (k1n (mfieldAddr E.P 45 (pt q 0) 3) fun x => k1n (xload E.P m 3 x) K) = K (vi d)) ∧ (∀ K : Value → Res2, k1n (xload E.P m 45 (pt q 0)) K = K (tV (a, b, c, d))) := by
  refine ⟨fun K => ?_, fun K => ?_, fun K => ?_⟩
  · rw [ff45_1, k1s, ld3, box_cell h (0 + 1) _ rfl, k1s]
  · rw [ff45_3, k1s, ld3, box_cell h (0 + 3) _ rfl, k1s]
  · rw [ld45 h (by show 0 + 4 ≤ 4; omega), k1s]
    rfl
theorem boxS {base : Nat} {m : M} {q : Nat} {a b c d : Int} (hb : base ≤ q) (h : m[q]? = some (cellR [vi a, vi b, vi c, vi d])) (x : Int) :
    (∀ K : M → Res2, (k1n (mfieldAddr E.P 45 (pt q 0) 1) fun z => ks (xstore E.P base m 3 z (vi x)) K) = K (m.set q (cellR [vi a, vi x, vi c, vi d]))) ∧ (∀ K : M → Res2, (k1n (mfieldAddr E.P 45 (pt q 0) 3) fun z => ks (xstore E.P base m 3 z (vi x)) K) = K (m.set q (cellR [vi a, vi b, vi c, vi x]))) := by
  refine ⟨fun K => ?_, fun K => ?_⟩
  · rw [ff45_1, k1s, st3, mwrite_one hb h rfl (by show 0 + 1 < 4; omega) rfl, kss]
    rfl
  · rw [ff45_3, k1s, st3, mwrite_one hb h rfl (by show 0 + 3 < 4; omega) rfl, kss]
    rfl
theorem loop78 (n0 base : Nat) (kx : Value → M → Res2) (fuel : Nat) {m0 : M} {v pv : Value} {l : List Wg} {P : List Int} (hT : Tiles m0 v l) (hP : Ints m0 pv P) (hPl : P.length ≤ 100000) (hn0 : P.length < n0) (hl : l.length ≤ 100000) {p : Nat} (hbb : base ≤ m0.length) (hp : m0.length ≤ p) :
    ∀ (n j : Nat) (m : M), Keeps m0.length m0 m → TilA m p l.length ((l.take j).map (rnT P)) → j ≤ l.length → l.length < n + j →
      ∃ m', r78_L0 (rt (n0 + 1)) fuel base kx n pv (sl p l.length) v (vi l.length) (vi j) m = kx (sl p l.length) m' ∧ Keeps m0.length m0 m' ∧ TilA m' p l.length (l.map (rnT P))
  | 0, j, m, hk, hA, h1, hn => by omega
  | n + 1, j, m, hk, hA, h1, hn => by
    rw [r78_L0_s, lss3, k1s]
    by_cases hlt : j < l.length
    · have hTm := hT.keeps hk
      have hpl : p < m.length := (List.getElem?_eq_some_iff.1 hA).1
      obtain ⟨a, b, c, d, ht⟩ : ∃ a b c d : Int, l[j] = (a, b, c, d) := ⟨_, _, _, _, rfl⟩
      have hbox : (m ++ [cellR [vi a, vi b, vi c, vi d]])[m.length]? = some (cellR [vi a, vi b, vi c, vi d]) := by simp
      have hPm : Ints (m ++ [cellR [vi a, vi b, vi c, vi d]]) pv P := (hP.keeps hk).keeps (Keeps.push _ m (Nat.le_refl _) _)
      obtain ⟨f1, f3, _⟩ := boxF hbox
      obtain ⟨g1, _⟩ := boxS (base := base) (by have := hk.1; omega) hbox (idxC P b 0)
      have hbox2 : ((m ++ [cellR [vi a, vi b, vi c, vi d]]).set m.length (cellR [vi a, vi (idxC P b 0), vi c, vi d]))[m.length]? = some (cellR [vi a, vi (idxC P b 0), vi c, vi d]) := List.getElem?_set_self (by simp)
      obtain ⟨_, g3⟩ := boxS (base := base) (by have := hk.1; omega) hbox2 (idxC P d 0)
      have hbox3 : (((m ++ [cellR [vi a, vi b, vi c, vi d]]).set m.length (cellR [vi a, vi (idxC P b 0), vi c, vi d])).set m.length (cellR [vi a, vi (idxC P b 0), vi c, vi (idxC P d 0)]))[m.length]? = some (cellR [vi a, vi (idxC P b 0), vi c, vi (idxC P d 0)]) := List.getElem?_set_self (by simp)
      obtain ⟨_, _, f5⟩ := boxF hbox3
      have hA3 : TilA (((m ++ [cellR [vi a, vi b, vi c, vi d]]).set m.length (cellR [vi a, vi (idxC P b 0), vi c, vi d])).set m.length (cellR [vi a, vi (idxC P b 0), vi c, vi (idxC P d 0)])) p l.length ((l.take j).map (rnT P)) := by
        unfold TilA
        rw [List.getElem?_set_ne (by omega), List.getElem?_set_ne (by omega), List.getElem?_append_left hpl]
        exact hA
      have hk3 : Keeps m0.length m0 (((m ++ [cellR [vi a, vi b, vi c, vi d]]).set m.length (cellR [vi a, vi (idxC P b 0), vi c, vi d])).set m.length (cellR [vi a, vi (idxC P b 0), vi c, vi (idxC P d 0)])) :=
        ⟨by have := hk.1; simp; omega, fun i hi => by have := hk.1; rw [List.getElem?_set_ne (by omega), List.getElem?_set_ne (by omega), List.getElem?_append_left (by omega)]; exact hk.2 i hi⟩
      have hjl : ((l.take j).map (rnT P)).length = j := by simp; omega
      obtain ⟨m4, e4, A4, l4, o4⟩ := st45A (base := base) (show base ≤ p by omega) hA3 (by rw [hjl]; exact hlt) (a, idxC P b 0, c, idxC P d 0)
      rw [hjl] at e4
      have hnext : (l.take j).map (rnT P) ++ [(a, idxC P b 0, c, idxC P d 0)] = (l.take (j + 1)).map (rnT P) := by
        rw [List.take_succ_eq_append_getElem hlt, List.map_append, ht]
        rfl
      rw [hnext] at A4
      rw [decide_eq_true (show (j : Int) < l.length by omega), kbt, hTm.get hlt, ht, letT (by have := hk.1; omega)]
      show ∃ m', (k1n (mfieldAddr E.P 45 (pt m.length 0) 1) _) = _ ∧ _
      rw [show cellR (tC (a, b, c, d)) = cellR [vi a, vi b, vi c, vi d] from rfl, f1, t111 n0 _ hPm hPl hn0, kB_same, kcs, f3, t111 n0 _ hPm hPl hn0, kB_same, kcs, g1, g3, f5, ix22 _ _ _ _ hlt, k1s, e4, kss, add1 j (by omega), k1s]
      exact loop78 n0 base kx fuel hT hP hPl hn0 hl hbb hp n (j + 1) m4 ⟨by rw [l4]; exact hk3.1, fun i hi => (o4 i (by omega)).trans (hk3.2 i hi)⟩ A4 (by omega) (by omega)
    · have hj : j = l.length := by omega
      rw [decide_eq_false (show ¬ (j : Int) < l.length by omega), kbf]
      rw [hj, List.take_length] at hA
      exact ⟨m, rfl, hk, hA⟩
theorem t78 (n0 base : Nat) {m : M} {v pv : Value} {l : List Wg} {P : List Int} (hbb : base ≤ m.length) (hT : Tiles m v l) (hP : Ints m pv P) (hPl : P.length ≤ 100000) (hl : l.length ≤ 100000) (hn0 : P.length + l.length < n0) :
    ∃ (v' : Value) (m' : M), rt (n0 + 2) base 78 [v, pv] m = some (.ret v', m') ∧ Tiles m' v' (l.map (rnT P)) ∧ Keeps m.length m m' := by
  rw [rt_imp (f := 78) (rf := rf78) (by kernel_rfl) (by kernel_rfl) (by kernel_rfl) (n0 + 1) base]
  show ∃ (v' : Value) (m' : M), r78 (rt (n0 + 1)) (n0 + 1) base v pv m = _ ∧ _
  have hk0 : Keeps m.length m (m ++ [rowz 4 true (repCells [vi 0, vi 0, vi 0, vi 0] l.length)]) := Keeps.push _ m (Nat.le_refl _) _
  have hA0 : TilA (m ++ [rowz 4 true (repCells [vi 0, vi 0, vi 0, vi 0] l.length)]) m.length l.length ((l.take 0).map (rnT P)) := by
    unfold TilA
    simp
  obtain ⟨m', e1, k1, A1⟩ := loop78 n0 base (fun y5_19 m => some (.ret y5_19, m)) (n0 + 1) hT hP hPl (by omega) hl hbb (Nat.le_refl _) (n0 + 1) 0 _ hk0 hA0 (Nat.zero_le _) (by omega)
  unfold r78
  rw [fVal_fun, vcall_fun, hT.len, k2s, mkM22 m l.length hl, k2s, (hT.keeps hk0).len, k2s, i0, e1]
  have hT' : Tiles m' (sl m.length l.length) (l.map (rnT P)) := by
    have h2 : TilA m' m.length (l.map (rnT P)).length (l.map (rnT P)) := by rw [List.length_map]; exact A1
    have := h2.tiles
    rwa [List.length_map] at this
  exact ⟨_, m', rfl, hT', k1⟩
end Go.AM
namespace Go.AM
open Go Go.Proofs
theorem gg33p {b base : Nat} {m : M} {v : Value} {cs : List Value} {n : Nat} (h : Grow 1 b m v cs n) (hn : n ≤ 1000) (hbb : base ≤ b) (hbm : b ≤ m.length) (x y : Int) :
    ∃ v' m', (∀ k : Value → M → Res2, (k2 (xbuildSlice E.P m 33 2 [(0, vi x), (1, vi y)]) fun u m => k2 (vcalln E.P base m .append [33, 33] [v, u]) k) = k v' m') ∧ Grow 1 b m' v' (cs ++ [vi x, vi y]) (n + 2) ∧ Keeps b m m' ∧
      (∀ i, i < m.length → (∀ n0, v ≠ sl i n0) → m'[i]? = m[i]?) ∧ (∀ i n0, v' = sl i n0 → m.length ≤ i ∧ i < m'.length) := by
  have hk : (m ++ [rowz 1 true [vi x, vi y]])[m.length]? = some (rowz 1 true [vi x, vi y]) := by simp
  rcases h with ⟨rfl, rfl, rfl⟩ | ⟨r, h1, hb, rfl, hr, hl⟩
  · refine ⟨_, (m ++ [rowz 1 true [vi x, vi y]]) ++ [rowz 1 false [vi x, vi y]], fun k => ?_, .inr ⟨(m ++ [rowz 1 true [vi x, vi y]]).length, by omega, by simp; omega, rfl, ?_, by simp⟩, ?_, fun i hi _ => ?_, fun i n0 e => ?_⟩
    · rw [gb33_2]
      simp only [k2]
      rw [ga33e, ga33nil _ _ _ 2 _ _ hk rfl (by omega) (by omega)]
      rfl
    · simp
    · exact (Keeps.push b m hbm _).trans (Keeps.push b _ (by simp; omega) _)
    · rw [List.getElem?_append_left (by simp; omega), List.getElem?_append_left hi]
    · injection e with e1 e2
      simp at e1
      subst e1
      simp
  · have hlt : r < m.length := (List.getElem?_eq_some_iff.1 hr).1
    refine ⟨_, (m ++ [rowz 1 true [vi x, vi y]]).set r (rowz 1 false []) ++ [rowz 1 false (cs ++ [vi x, vi y])], fun k => ?_, .inr ⟨(m ++ [rowz 1 true [vi x, vi y]]).length, by omega, by simp; omega, rfl, ?_, by simp [hl, Nat.add_mul]⟩, ?_, fun i hi hv => ?_, fun i n0 e => ?_⟩
    · rw [gb33_2]
      simp only [k2]
      rw [ga33e, ga33some _ _ r n _ 2 _ false cs (rowz 1 true [vi x, vi y]) (by rw [List.getElem?_append_left hlt]; exact hr) hl (.inr h1) (by omega) (by omega) (by omega) (by omega) hk rfl rfl]
      rfl
    · simp
    · exact ((Keeps.push b m hbm _).trans (Keeps.set b _ r _ hb)).trans (Keeps.push b _ (by simp; omega) _)
    · have : r ≠ i := fun e => hv n (by rw [e])
      rw [List.getElem?_append_left (by simp; omega), List.getElem?_set_ne this, List.getElem?_append_left hi]
    · injection e with e1 e2
      simp at e1
      subst e1
      simp
end Go.AM
namespace Go.AM
open Go Go.Proofs
theorem r77_L2_s (call : CallF) (fuel base : Nat) (kp : Value → M → Res2) (kx2 : Value → Value → Value → Value → Value → Value → M → Res2) (n : Nat) (x1 x6 x7 x9 x15 x16 x17 x21 x22 x23 : Value) (m : M) : r77_L2 call fuel base kp kx2 (n + 1) x1 x6 x7 x9 x15 x16 x17 x21 x22 x23 m =
    (k1n (mbin E .lss 3 x23 x22) fun v24_7 => (kb v24_7 (k1n (mindexAddr E.P 22 x21 x23) fun v25_8 => (k1n (xload E.P m 45 v25_8) fun v26_9 => (k2 (xalloc E.P m 45) fun v11_10 m => (ks (xstore E.P base m 45 v11_10 v26_9) fun m => (k1n (mfieldAddr E.P 45 x9 2) fun v27_11 => (k1n (xload E.P m 3 v27_11) fun v28_12 => (k1n (mfieldAddr E.P 45 v11_10 0) fun v29_13 => (k1n (xload E.P m 3 v29_13) fun v30_14 => (k1n (mbin E .neq 3 v28_12 v30_14) fun v31_15 => (kb v31_15 (k1n (mbin E .add 3 x23 (.int .i64 1)) fun v64_16 => (r77_L2 call fuel base kp kx2 n x1 x6 x7 x9 x15 x16 x17 x21 x22 v64_16 m)) (k1n (mfieldAddr E.P 45 x9 1) fun v32_17 => (k1n (xload E.P m 3 v32_17) fun v33_18 => (k1n (mfieldAddr E.P 45 v11_10 1) fun v34_19 => (k1n (xload E.P m 3 v34_19) fun v35_20 => (k2 (xbuildSlice E.P m 33 2 [(0, v33_18), (1, v35_20)]) fun v36_21 m => (kc (kB m (call m.length 95 [v36_21] m)) (fun v37_22 m => (k1n (mfieldAddr E.P 45 x9 3) fun v38_23 => (k1n (xload E.P m 3 v38_23) fun v39_24 => (k1n (mfieldAddr E.P 45 v11_10 3) fun v40_25 => (k1n (xload E.P m 3 v40_25) fun v41_26 => (k2 (xbuildSlice E.P m 33 2 [(0, v39_24), (1, v41_26)]) fun v42_27 m => (kc (kB m (call m.length 95 [v42_27] m)) (fun v43_28 m => (k2 (xbuildSlice E.P m 33 2 [(0, v37_22), (1, v43_28)]) fun v47_29 m => (k2 (vcalln E.P base m .append [33, 33] [x7, v47_29]) fun v48_30 m => (k1n (mfieldAddr E.P 45 x9 0) fun v49_31 => (k1n (xload E.P m 3 v49_31) fun v50_32 => (k1n (mfieldAddr E.P 45 v11_10 2) fun v52_33 => (k1n (xload E.P m 3 v52_33) fun v53_34 => (k1n (mbuild E.P 45 [(0, v50_32), (1, v37_22), (2, v53_34), (3, v43_28)]) fun v55_35 => (k2 (xalloc E.P m 45) fun v14_36 m => (ks (xstore E.P base m 45 v14_36 v55_35) fun m => (k1n (xload E.P m 45 v14_36) fun v57_37 => (kc (call base 84 [x6, v57_37] m) (fun v58_38 m => (k1n (mun .not v58_38) fun v59_39 => (kb v59_39 (k1n (xload E.P m 45 v14_36) fun v61_40 => (k2 (xbuildSlice E.P m 22 1 [(0, v61_40)]) fun v62_41 m => (k2 (vcalln E.P base m .append [22, 22] [x6, v62_41]) fun v63_42 m => (k1n (mbin E .add 3 x23 (.int .i64 1)) fun v64_43 => (r77_L2 call fuel base kp kx2 n x1 v63_42 v48_30 x9 x15 x16 x17 x21 x22 v64_43 m))))) (k1n (mbin E .add 3 x23 (.int .i64 1)) fun v64_44 => (r77_L2 call fuel base kp kx2 n x1 x6 v48_30 x9 x15 x16 x17 x21 x22 v64_44 m))))) (fun v m => kp v m))))))))))))) (fun _ _ => none)))))))) (fun _ _ => none))))))))))))))))) (kx2 x1 x6 x7 x15 x16 x17 m))) := by
  unfold r77_L2
  rw [k1_fun, vcall_fun]
theorem r77_L0_s (call : CallF) (fuel base : Nat) (kp : Value → M → Res2) (kx0 : Value → Value → M → Res2) (n : Nat) (x1 x6 x7 x15 x16 x17 : Value) (m : M) : r77_L0 call fuel base kp kx0 (n + 1) x1 x6 x7 x15 x16 x17 m =
    (k1n (mbin E .lss 3 x17 x16) fun v18_2 => (kb v18_2 (k1n (mindexAddr E.P 22 x15 x17) fun v19_3 => (k1n (xload E.P m 45 v19_3) fun v20_4 => (k2 (xalloc E.P m 45) fun v9_5 m => (ks (xstore E.P base m 45 v9_5 v20_4) fun m => (k2 (vcalln E.P base m .len [22] [x1]) fun v22_6 m => (r77_L2 call fuel base (fun v m => kp v m) (fun y1_45 y6_46 y7_47 y15_48 y16_49 y17_50 m => (k1n (mbin E .add 3 y17_50 (.int .i64 1)) fun v65_51 => (r77_L0 call fuel base kp kx0 n y1_45 y6_46 y7_47 y15_48 y16_49 v65_51 m))) fuel x1 x6 x7 v9_5 x15 x16 x17 x1 v22_6 (.int .i64 0) m)))))) (kx0 x6 x7 m))) := by
  unfold r77_L0
  rw [k1_fun, vcall_fun]
theorem boxG {m : M} {q : Nat} {a b c d : Int} (h : m[q]? = some (cellR [vi a, vi b, vi c, vi d])) : (∀ K : Value → Res2, (k1n (mfieldAddr E.P 45 (pt q 0) 0) fun x => k1n (xload E.P m 3 x) K) = K (vi a)) ∧ (∀ K : Value → Res2, (k1n (mfieldAddr E.P 45 (pt q 0) 2) fun x => k1n (xload E.P m 3 x) K) = K (vi c)) := by
  refine ⟨fun K => ?_, fun K => ?_⟩
  · rw [ff45_0, k1s, ld3, box_cell h (0 + 0) _ rfl, k1s]
  · rw [ff45_2, k1s, ld3, box_cell h (0 + 2) _ rfl, k1s]
/-- Two tiles as one. -/
def jT (s t : Wg) : Wg := (s.1, codeA 0 [s.2.1, t.2.1], t.2.2.1, codeA 0 [s.2.2.2, t.2.2.2])
def jStep (s t : Wg) (A : List Wg × List Int) : List Wg × List Int := if s.2.2.1 = t.1 then ((if jT s t ∈ A.1 then A.1 else A.1 ++ [jT s t]), A.2 ++ [(jT s t).2.1, (jT s t).2.2.2]) else A
def jRow (s : Wg) : List Wg → List Wg × List Int → List Wg × List Int
  | [], A => A
  | t :: b, A => jRow s b (jStep s t A)
def jAll : List Wg → List Wg → List Wg × List Int → List Wg × List Int
  | [], _, A => A
  | s :: a, b, A => jAll a b (jRow s b A)
/-- What joined has in memory. -/
structure JM (B : Nat) (m : M) (vS vP : Value) (A : List Wg × List Int) : Prop where
  s : GT B m vS A.1
  p : Grow 1 B m vP (A.2.map vi) A.2.length
  sep : ∀ i n n', vS = sl i n → vP ≠ sl i n'
theorem code2 (n base : Nat) {m : M} (hn : 10 ≤ n) (a b : Int) : ∃ m', (∀ K : Value → M → Res2, (k2 (xbuildSlice E.P m 33 2 [(0, vi a), (1, vi b)]) fun u m => kc (kB m (rt (n + 1) m.length 95 [u] m)) K (fun _ _ => none)) = K (vi (codeA 0 [a, b])) m') ∧ m' = m ++ [rowz 1 true [vi a, vi b]] := by
  refine ⟨_, fun K => ?_, rfl⟩
  have hI : Ints (m ++ [rowz 1 true [vi a, vi b]]) (sl m.length 2) [a, b] := by
    refine .inr ⟨m.length, 0, 2, rowz 1 true [vi a, vi b], rfl, by simp, by simp, rfl, by simp [rowz], fun j hj => ?_⟩
    have : j = 0 ∨ j = 1 := by simp at hj; omega
    rcases this with rfl | rfl <;> rfl
  rw [gb33_2, k2s, t95 n _ hI (by simp) (by simp; omega), kB_same, kcs]
end Go.AM
namespace Go.AM
open Go Go.Proofs
theorem Grow.via {z b : Nat} {m m' : M} {v : Value} {cs : List Value} {n : Nat} (h : Grow z b m v cs n) (hk : ∀ i n0, v = sl i n0 → m'[i]? = m[i]?) : Grow z b m' v cs n := by
  rcases h with h | ⟨r, h1, h2, h3, h4, h5⟩
  · exact .inl h
  · exact .inr ⟨r, h1, h2, h3, (hk r n h3).trans h4, h5⟩
theorem Grow.lt {z b : Nat} {m : M} {v : Value} {cs : List Value} {n : Nat} (h : Grow z b m v cs n) {i n0 : Nat} (e : v = sl i n0) : i < m.length := by
  rcases h with ⟨_, h2, _⟩ | ⟨r, h1, h2, h3, h4, h5⟩
  · rw [h2] at e
    simp at e
  · rw [h3] at e
    have hr := (List.getElem?_eq_some_iff.1 h4).1
    simp at e
    omega
theorem JM.push {B : Nat} {m : M} {vS vP : Value} {A : List Wg × List Int} (h : JM B m vS vP A) (x : List Row) : JM B (m ++ x) vS vP A :=
  ⟨Grow.via h.s fun i n e => List.getElem?_append_left (Grow.lt h.s e), h.p.via fun i n e => List.getElem?_append_left (h.p.lt e), h.sep⟩
theorem mb45 (a b c d : Int) : mbuild E.P 45 [(0, vi a), (1, vi b), (2, vi c), (3, vi d)] = some (tV (a, b, c, d)) := by kernel_rfl
set_option maxHeartbeats 2000000 in
theorem loop77b (n0 base : Nat) (kp : Value → M → Res2) (kx : Value → Value → Value → Value → Value → Value → M → Res2) (fuel : Nat) (x15 x16 x17 : Value) {m0 : M} {v1 : Value} {b : List Wg} (hn0 : 1000 ≤ n0) (hbb : base ≤ m0.length) (hT : Tiles m0 v1 b) (hb100 : b.length ≤ 100) (s : Wg) {q : Nat} :
    ∀ (n j : Nat) (m : M) (vS vP : Value) (A : List Wg × List Int), JM m0.length m vS vP A → m[q]? = some (cellR (tC s)) → (∀ n, vS ≠ sl q n) → (∀ n, vP ≠ sl q n) → Keeps m0.length m0 m → j ≤ b.length → b.length < n + j → A.1.length + (b.length - j) ≤ 900 → A.2.length + 2 * (b.length - j) ≤ 900 →
      ∃ (m' : M) (vS' vP' : Value), r77_L2 (rt (n0 + 1)) fuel base kp kx n v1 vS vP (pt q 0) x15 x16 x17 v1 (vi b.length) (vi j) m = kx v1 vS' vP' x15 x16 x17 m' ∧ JM m0.length m' vS' vP' (jRow s (b.drop j) A) ∧ Keeps m0.length m0 m'
  | 0, j, m, vS, vP, A, hJ, hbox, hq1, hq2, hk, h1, hn, hs1, hs2 => by omega
  | n + 1, j, m, vS, vP, A, hJ, hbox, hq1, hq2, hk, h1, hn, hs1, hs2 => by
    rw [r77_L2_s, lss3, k1s]
    by_cases hlt : j < b.length
    · obtain ⟨sa, sb, sc, sd⟩ := s
      obtain ⟨ta, tb, tc, td, ht⟩ : ∃ a b' c d : Int, b[j] = (a, b', c, d) := ⟨_, _, _, _, rfl⟩
      have hkl := hk.1
      have hql := (List.getElem?_eq_some_iff.1 hbox).1
      rw [List.drop_eq_getElem_cons hlt, ht]
      show ∃ (m' : M) (vS' vP' : Value), _ ∧ JM m0.length m' vS' vP' (jRow (sa, sb, sc, sd) (b.drop (j + 1)) (jStep (sa, sb, sc, sd) (ta, tb, tc, td) A)) ∧ _
      have hJ1 := hJ.push [cellR [vi ta, vi tb, vi tc, vi td]]
      have hk1 : Keeps m0.length m0 (m ++ [cellR [vi ta, vi tb, vi tc, vi td]]) := hk.trans (Keeps.push _ m hkl _)
      have bq1 : (m ++ [cellR [vi ta, vi tb, vi tc, vi td]])[q]? = some (cellR [vi sa, vi sb, vi sc, vi sd]) := by rw [List.getElem?_append_left hql]; exact hbox
      have bt1 : (m ++ [cellR [vi ta, vi tb, vi tc, vi td]])[m.length]? = some (cellR [vi ta, vi tb, vi tc, vi td]) := by simp
      have hl1 : (m ++ [cellR [vi ta, vi tb, vi tc, vi td]]).length = m.length + 1 := by simp
      rw [decide_eq_true (show (j : Int) < b.length by omega), kbt, (hT.keeps hk).get hlt, ht, letT (by omega), show cellR (tC (ta, tb, tc, td)) = cellR [vi ta, vi tb, vi tc, vi td] from rfl]
      generalize m ++ [cellR [vi ta, vi tb, vi tc, vi td]] = m1 at hJ1 hk1 bq1 bt1 hl1
      rw [(boxG bq1).2, (boxG bt1).1, neq3, k1s]
      by_cases hne : sc = ta
      · obtain ⟨m2, e2, r2⟩ := code2 n0 base (m := m1) (by omega) sb tb
        have hJ2 := hJ1.push [rowz 1 true [vi sb, vi tb]]
        have hk2 : Keeps m0.length m0 (m1 ++ [rowz 1 true [vi sb, vi tb]]) := hk1.trans (Keeps.push _ m1 hk1.1 _)
        have bq2 : (m1 ++ [rowz 1 true [vi sb, vi tb]])[q]? = some (cellR [vi sa, vi sb, vi sc, vi sd]) := by rw [List.getElem?_append_left (by omega)]; exact bq1
        have bt2 : (m1 ++ [rowz 1 true [vi sb, vi tb]])[m.length]? = some (cellR [vi ta, vi tb, vi tc, vi td]) := by rw [List.getElem?_append_left (by omega)]; exact bt1
        have hl2 : (m1 ++ [rowz 1 true [vi sb, vi tb]]).length = m.length + 2 := by simp [hl1]
        rw [← r2] at hJ2 hk2 bq2 bt2 hl2
        rw [decide_eq_true hne, Bool.not_true, kbf, (boxF bq1).1, (boxF bt1).1, e2, (boxF bq2).2.1, (boxF bt2).2.1]
        obtain ⟨m3, e3, r3⟩ := code2 n0 base (m := m2) (by omega) sd td
        have hJ3 := hJ2.push [rowz 1 true [vi sd, vi td]]
        have hk3 : Keeps m0.length m0 (m2 ++ [rowz 1 true [vi sd, vi td]]) := hk2.trans (Keeps.push _ m2 hk2.1 _)
        have bq3 : (m2 ++ [rowz 1 true [vi sd, vi td]])[q]? = some (cellR [vi sa, vi sb, vi sc, vi sd]) := by rw [List.getElem?_append_left (by omega)]; exact bq2
        have bt3 : (m2 ++ [rowz 1 true [vi sd, vi td]])[m.length]? = some (cellR [vi ta, vi tb, vi tc, vi td]) := by rw [List.getElem?_append_left (by omega)]; exact bt2
        have hl3 : (m2 ++ [rowz 1 true [vi sd, vi td]]).length = m.length + 3 := by simp [hl2]
        rw [← r3] at hJ3 hk3 bq3 bt3 hl3
        rw [e3]
        have hPlt : ∀ i n', vP = sl i n' → i < m.length := fun i n' e => hJ.p.lt e
        have hSlt : ∀ i n', vS = sl i n' → i < m.length := fun i n' e => Grow.lt hJ.s e
        obtain ⟨vP', m4, e4, g4, k4, o4, w4⟩ := gg33p hJ3.p (by omega) hbb hk3.1 (codeA 0 [sb, tb]) (codeA 0 [sd, td])
        have bq4 : m4[q]? = some (cellR [vi sa, vi sb, vi sc, vi sd]) := by rw [o4 q (by omega) hq2]; exact bq3
        have bt4 : m4[m.length]? = some (cellR [vi ta, vi tb, vi tc, vi td]) := by rw [o4 m.length (by omega) (fun n' e => by have := hPlt _ _ e; omega)]; exact bt3
        have S4 : GT m0.length m4 vS A.1 := Grow.via hJ3.s fun i n' e => o4 i (by have := hSlt i n' e; omega) (fun n'' => hJ.sep i n' n'' e)
        have hk4 : Keeps m0.length m0 m4 := hk3.trans k4
        rw [e4, (boxG bq4).1, (boxG bt4).2, mb45, k1s, letT (show base ≤ m4.length by have := hk4.1; omega)]
        have hj2 : jStep (sa, sb, sc, sd) (ta, tb, tc, td) A = ((if jT (sa, sb, sc, sd) (ta, tb, tc, td) ∈ A.1 then A.1 else A.1 ++ [jT (sa, sb, sc, sd) (ta, tb, tc, td)]), A.2 ++ [codeA 0 [sb, tb], codeA 0 [sd, td]]) := if_pos hne
        rw [hj2]
        show ∃ (m' : M) (vS' vP' : Value), (k1n (xload E.P (m4 ++ [cellR [vi sa, vi (codeA 0 [sb, tb]), vi tc, vi (codeA 0 [sd, td])]]) 45 (pt m4.length 0)) _) = _ ∧ _
        have b5 : (m4 ++ [cellR [vi sa, vi (codeA 0 [sb, tb]), vi tc, vi (codeA 0 [sd, td])]])[m4.length]? = some (cellR [vi sa, vi (codeA 0 [sb, tb]), vi tc, vi (codeA 0 [sd, td])]) := by simp
        have bq5 : (m4 ++ [cellR [vi sa, vi (codeA 0 [sb, tb]), vi tc, vi (codeA 0 [sd, td])]])[q]? = some (cellR [vi sa, vi sb, vi sc, vi sd]) := by rw [List.getElem?_append_left (by have := (List.getElem?_eq_some_iff.1 bq4).1; omega)]; exact bq4
        have hk5 : Keeps m0.length m0 (m4 ++ [cellR [vi sa, vi (codeA 0 [sb, tb]), vi tc, vi (codeA 0 [sd, td])]]) := hk4.trans (Keeps.push _ m4 hk4.1 _)
        have S5 : GT m0.length (m4 ++ [cellR [vi sa, vi (codeA 0 [sb, tb]), vi tc, vi (codeA 0 [sd, td])]]) vS A.1 := Grow.via S4 fun i n' e => List.getElem?_append_left (Grow.lt S4 e)
        have P5 : Grow 1 m0.length (m4 ++ [cellR [vi sa, vi (codeA 0 [sb, tb]), vi tc, vi (codeA 0 [sd, td])]]) vP' ((A.2 ++ [codeA 0 [sb, tb], codeA 0 [sd, td]]).map vi) (A.2 ++ [codeA 0 [sb, tb], codeA 0 [sd, td]]).length := by
          rw [List.map_append, List.length_append]
          exact g4.via fun i n' e => List.getElem?_append_left (g4.lt e)
        have hq2' : ∀ n', vP' ≠ sl q n' := fun n' e => by have := (w4 q n' e).1; omega
        generalize m4 ++ [cellR [vi sa, vi (codeA 0 [sb, tb]), vi tc, vi (codeA 0 [sd, td])]] = m5 at b5 bq5 hk5 S5 P5
        have hsep5 : ∀ i n' n'', vS = sl i n' → vP' ≠ sl i n'' := fun i n' n'' e e2 => by have := (w4 i n'' e2).1; have := hSlt i n' e; omega
        obtain ⟨z, rfl⟩ : ∃ z, n0 = z + 1 := ⟨n0 - 1, by omega⟩
        rw [(boxF b5).2.2, t84 z base (S5.tiles) (by omega) (by omega), kcs, not4, k1s]
        by_cases hin : (sa, codeA 0 [sb, tb], tc, codeA 0 [sd, td]) ∈ A.1
        · have hin' : jT (sa, sb, sc, sd) (ta, tb, tc, td) ∈ A.1 := hin
          rw [decide_eq_true hin, Bool.not_true, kbf, add1 j (by omega), k1s, if_pos hin']
          exact loop77b (z + 1) base kp kx fuel x15 x16 x17 hn0 hbb hT hb100 _ n (j + 1) m5 vS vP' _ ⟨S5, P5, hsep5⟩ bq5 hq1 hq2' hk5 (by omega) (by omega) (by show A.1.length + _ ≤ 900; omega) (by show (A.2 ++ _).length + _ ≤ 900; simp; omega)
        · have hin' : ¬ jT (sa, sb, sc, sd) (ta, tb, tc, td) ∈ A.1 := hin
          obtain ⟨vS', m6, e6, g6, k6, o6, w6⟩ := gg22 S5 (by omega) hbb hk5.1 sa (codeA 0 [sb, tb]) tc (codeA 0 [sd, td])
          have hP5lt : ∀ i n', vP' = sl i n' → i < m5.length := fun i n' e => P5.lt e
          rw [decide_eq_false hin, Bool.not_false, kbt, (boxF b5).2.2, e6, add1 j (by omega), k1s, if_neg hin']
          refine loop77b (z + 1) base kp kx fuel x15 x16 x17 hn0 hbb hT hb100 _ n (j + 1) m6 vS' vP' _ ⟨?_, P5.via fun i n' e => o6 i (hP5lt i n' e) (fun n'' e2 => hsep5 i n'' n' e2 e), fun i n' n'' e e2 => ?_⟩ ?_ (fun n' e => ?_) hq2' (hk5.trans k6) (by omega) (by omega) (by show (A.1 ++ _).length + _ ≤ 900; simp; omega) (by show (A.2 ++ _).length + _ ≤ 900; simp; omega)
          · show Grow 4 m0.length m6 vS' ((A.1 ++ [jT (sa, sb, sc, sd) (ta, tb, tc, td)]).flatMap tC) (A.1 ++ [jT (sa, sb, sc, sd) (ta, tb, tc, td)]).length
            rw [List.flatMap_append, List.length_append]
            simpa [jT] using g6
          · have := (w6 i n' e).1
            have := hP5lt i n'' e2
            omega
          · rw [o6 q (List.getElem?_eq_some_iff.1 bq5).1 hq1]
            exact bq5
          · have := (w6 q n' e).1
            have := (List.getElem?_eq_some_iff.1 bq5).1
            omega
      · have hst : jStep (sa, sb, sc, sd) (ta, tb, tc, td) A = A := if_neg hne
        rw [decide_eq_false hne, Bool.not_false, kbt, add1 j (by have := hs1; omega), k1s, hst]
        exact loop77b n0 base kp kx fuel x15 x16 x17 hn0 hbb hT hb100 _ n (j + 1) m1 vS vP A hJ1 bq1 hq1 hq2 hk1 (by omega) (by omega) (by omega) (by omega)
    · have hj : j = b.length := by omega
      rw [decide_eq_false (show ¬ (j : Int) < b.length by omega), kbf, List.drop_eq_nil_of_le (by omega)]
      exact ⟨m, vS, vP, rfl, hJ, hk⟩
end Go.AM
namespace Go.AM
open Go Go.Proofs
theorem jRow_len (s : Wg) : ∀ (b : List Wg) (A : List Wg × List Int), (jRow s b A).1.length ≤ A.1.length + b.length ∧ (jRow s b A).2.length ≤ A.2.length + 2 * b.length
  | [], A => ⟨Nat.le_refl _, Nat.le_refl _⟩
  | t :: b, A => by
    have h1 : (jStep s t A).1.length ≤ A.1.length + 1 ∧ (jStep s t A).2.length ≤ A.2.length + 2 := by
      unfold jStep
      split
      · refine ⟨?_, by simp⟩
        show (if jT s t ∈ A.1 then A.1 else A.1 ++ [jT s t]).length ≤ _
        split
        · omega
        · simp
      · exact ⟨by omega, by omega⟩
    have := jRow_len s b (jStep s t A)
    show (jRow s b (jStep s t A)).1.length ≤ _ ∧ (jRow s b (jStep s t A)).2.length ≤ _
    simp only [List.length_cons]
    omega
theorem loop77a (n0 base : Nat) (kp : Value → M → Res2) (kx : Value → Value → M → Res2) (fuel : Nat) {m0 : M} {v0 v1 : Value} {a b : List Wg} (hn0 : 1000 ≤ n0) (hbb : base ≤ m0.length) (hA : Tiles m0 v0 a) (hT : Tiles m0 v1 b) (ha : a.length ≤ 16) (hb : b.length ≤ 16) (hf : 100 ≤ fuel) :
    ∀ (n i : Nat) (m : M) (vS vP : Value) (A : List Wg × List Int), JM m0.length m vS vP A → Keeps m0.length m0 m → i ≤ a.length → a.length < n + i → A.1.length ≤ i * 16 → A.2.length ≤ i * 32 →
      ∃ (m' : M) (vS' vP' : Value), r77_L0 (rt (n0 + 1)) fuel base kp kx n v1 vS vP v0 (vi a.length) (vi i) m = kx vS' vP' m' ∧ JM m0.length m' vS' vP' (jAll (a.drop i) b A) ∧ Keeps m0.length m0 m' ∧ (jAll (a.drop i) b A).1.length ≤ 256 ∧ (jAll (a.drop i) b A).2.length ≤ 512
  | 0, i, m, vS, vP, A, hJ, hk, h1, hn, hs1, hs2 => by omega
  | n + 1, i, m, vS, vP, A, hJ, hk, h1, hn, hs1, hs2 => by
    rw [r77_L0_s, lss3, k1s]
    by_cases hlt : i < a.length
    · have hkl := hk.1
      have hJ1 := hJ.push [cellR (tC a[i])]
      have hk1 : Keeps m0.length m0 (m ++ [cellR (tC a[i])]) := hk.trans (Keeps.push _ m hkl _)
      have hbox : (m ++ [cellR (tC a[i])])[m.length]? = some (cellR (tC a[i])) := by simp
      obtain ⟨m2, vS2, vP2, e2, J2, k2⟩ := loop77b n0 base (fun v m => kp v m) (fun y1_45 y6_46 y7_47 y15_48 y16_49 y17_50 m => (k1n (mbin E .add 3 y17_50 (.int .i64 1)) fun v65_51 => (r77_L0 (rt (n0 + 1)) fuel base kp kx n y1_45 y6_46 y7_47 y15_48 y16_49 v65_51 m))) fuel v0 (vi a.length) (vi i) hn0 hbb hT (by omega) a[i] (q := m.length) fuel 0 _ vS vP A hJ1 hbox (fun n' e => by have := Grow.lt hJ.s e; omega) (fun n' e => by have := hJ.p.lt e; omega) hk1 (Nat.zero_le _) (by omega) (by omega) (by omega)
      rw [decide_eq_true (show (i : Int) < a.length by omega), kbt, (hA.keeps hk).get hlt, letT (by omega), (hT.keeps hk1).len, k2s, i0, e2, add1 i (by omega), k1s, List.drop_eq_getElem_cons hlt]
      rw [List.drop_zero] at J2
      have hl := jRow_len a[i] b A
      exact loop77a n0 base kp kx fuel hn0 hbb hA hT ha hb hf n (i + 1) m2 vS2 vP2 _ J2 k2 (by omega) (by omega) (by omega) (by omega)
    · have hi : i = a.length := by omega
      rw [decide_eq_false (show ¬ (i : Int) < a.length by omega), kbf, List.drop_eq_nil_of_le (by omega)]
      exact ⟨m, vS, vP, rfl, hJ, hk, by show A.1.length ≤ 256; omega, by show A.2.length ≤ 512; omega⟩
theorem t77 (n0 base : Nat) {m : M} {v0 v1 : Value} {a b : List Wg} (hn0 : 3000 ≤ n0) (hbb : base ≤ m.length) (hA : Tiles m v0 a) (hT : Tiles m v1 b) (ha : a.length ≤ 16) (hb : b.length ≤ 16) :
    ∃ (m' : M) (vS u : Value) (P : List Int), rt (n0 + 2) base 77 [v0, v1] m = some (.ret (.tuple #[vS, u]), m') ∧ Tiles m' vS (jAll a b ([], [])).1 ∧ Ints m' u P ∧ Dist (jAll a b ([], [])).2 P ∧ Keeps m.length m m' ∧ P.length ≤ 512 ∧ (jAll a b ([], [])).1.length ≤ 256 := by
  rw [rt_imp (f := 77) (rf := rf77) (by kernel_rfl) (by kernel_rfl) (by kernel_rfl) (n0 + 1) base]
  show ∃ (m' : M) (vS u : Value) (P : List Int), r77 (rt (n0 + 1)) (n0 + 1) base v0 v1 m = _ ∧ _
  have hJ0 : JM m.length m nilS nilS ([], []) := ⟨.inl ⟨rfl, rfl, rfl⟩, .inl ⟨rfl, rfl, rfl⟩, fun i n n' e => by simp at e⟩
  obtain ⟨m1, vS, vP, e1, J1, k1, l1, l2⟩ := loop77a n0 base (fun v m => some (.pan v, m)) (fun y6_52 y7_53 m => (kc (rt (n0 + 1) base 109 [y7_53] m) (fun v67_54 m => (kc (rt (n0 + 1) base 110 [y7_53] m) (fun v70_55 m => (some (.ret (.tuple #[y6_52, v70_55]), m))) (fun v m => some (.pan v, m)))) (fun v m => some (.pan v, m)))) (n0 + 1) (by omega) hbb hA hT ha hb (by omega) (n0 + 1) 0 m nilS nilS ([], []) hJ0 (Keeps.refl _ _) (Nat.zero_le _) (by omega) (by simp) (by simp)
  rw [List.drop_zero] at J1 l1 l2
  obtain ⟨m2, m3, u, P, e2, e3, hI, hD, k3, hl, o3⟩ := sortC (n0 + 1) base J1.p hbb (by omega) (by omega)
  have hS : GT m.length m3 vS (jAll a b ([], [])).1 := Grow.via J1.s fun i n' e => o3 i (Grow.lt J1.s e) (fun n'' => J1.sep i n' n'' e)
  unfold r77
  rw [vcall_fun, hA.len, k2s, i0, e1, e2, kcs, e3, kcs]
  exact ⟨m3, vS, u, P, rfl, hS.tiles, hI, hD, k1.trans k3, by omega, l1⟩
end Go.AM
namespace Go.AM
open Go Go.Proofs
/-- Product's error. -/
def prE (a b : List Wg) (P : List Int) : Nat := if isS a && isS b then (if 16 < (jAll a b ([], [])).1.length ∨ 8 < P.length then 8 else 0) else 2
theorem t43 (n0 base : Nat) {m : M} {v0 v1 : Value} {a b : List Wg} (hn0 : 3000 ≤ n0) (hbb : base ≤ m.length) (hA : Tiles m v0 a) (hT : Tiles m v1 b) :
    ∃ (m' : M) (v : Value) (P : List Int), rt (n0 + 3) base 43 [v0, v1] m = some (.ret (.tuple #[v, vi (prE a b P)]), m') ∧ Tiles m' v (if prE a b P = 0 then (jAll a b ([], [])).1.map (rnT P) else []) ∧ (isS a = true → isS b = true → Dist (jAll a b ([], [])).2 P) ∧ Keeps m.length m m' := by
  rw [rt_imp (f := 43) (rf := rf43) (by kernel_rfl) (by kernel_rfl) (by kernel_rfl) (n0 + 2) base]
  show ∃ (m' : M) (v : Value) (P : List Int), r43 (rt (n0 + 2)) (n0 + 2) base v0 v1 m = _ ∧ _
  unfold r43
  rw [k1_fun, vcall_fun, t48 (n0 + 1) _ (by omega) hA, kcs, not4, k1s]
  cases hSa : isS a with
  | false =>
    rw [Bool.not_false, kbt]
    have hE : ∀ P, prE a b P = 2 := fun P => by unfold prE; rw [hSa]; rfl
    refine ⟨m, nilS, [], ?_, ?_, fun h => by simp at h, Keeps.refl _ _⟩
    · rw [hE]; rfl
    · rw [hE]; exact .inl ⟨rfl, .inl rfl⟩
  | true =>
    rw [Bool.not_true, kbf, t48 (n0 + 1) _ (by omega) hT, kcs, not4, k1s]
    cases hSb : isS b with
    | false =>
      rw [Bool.not_false, kbt]
      have hE : ∀ P, prE a b P = 2 := fun P => by unfold prE; rw [hSa, hSb]; rfl
      refine ⟨m, nilS, [], ?_, ?_, fun _ h => by simp at h, Keeps.refl _ _⟩
      · rw [hE]; rfl
      · rw [hE]; exact .inl ⟨rfl, .inl rfl⟩
    | true =>
      obtain ⟨m1, vS, u, P, e1, h1, hI, hD, k1, l1, l2⟩ := t77 n0 base hn0 hbb hA hT (isS_facts hSa).2.1 (isS_facts hSb).2.1
      rw [Bool.not_true, kbf, e1, kcs, ex20, k1s, ex21, k1s, h1.len, k2s, show (.int .i64 16 : Value) = vi (16 : Nat) from rfl, gtr3, k1s]
      by_cases h16 : 16 < (jAll a b ([], [])).1.length
      · have hE : prE a b P = 8 := by unfold prE; rw [hSa, hSb, if_pos (show (true && true) = true from rfl), if_pos (.inl h16)]
        rw [decide_eq_true (show (((jAll a b ([], [])).1.length : Nat) : Int) > (16 : Nat) by omega), kbt]
        refine ⟨m1, nilS, P, ?_, ?_, fun _ _ => hD, k1⟩
        · rw [hE]; rfl
        · rw [hE]; exact .inl ⟨rfl, .inl rfl⟩
      · rw [decide_eq_false (show ¬ (((jAll a b ([], [])).1.length : Nat) : Int) > (16 : Nat) by omega), kbf, hI.len, k2s, show (.int .i64 8 : Value) = vi (8 : Nat) from rfl, gtr3, k1s]
        by_cases h8 : 8 < P.length
        · have hE : prE a b P = 8 := by unfold prE; rw [hSa, hSb, if_pos (show (true && true) = true from rfl), if_pos (.inr h8)]
          rw [decide_eq_true (show ((P.length : Nat) : Int) > (8 : Nat) by omega), kbt]
          refine ⟨m1, nilS, P, ?_, ?_, fun _ _ => hD, k1⟩
          · rw [hE]; try rfl
          · rw [hE]; exact .inl ⟨rfl, .inl rfl⟩
        · have hE : prE a b P = 0 := by unfold prE; rw [hSa, hSb, if_pos (show (true && true) = true from rfl), if_neg (by omega)]
          obtain ⟨v', m2, e2, h2, k2⟩ := t78 n0 base (Nat.le_trans hbb k1.1) h1 hI (by omega) (by omega) (by omega)
          rw [decide_eq_false (show ¬ ((P.length : Nat) : Int) > (8 : Nat) by omega), kbf, e2, kcs]
          refine ⟨m2, v', P, ?_, ?_, fun _ _ => hD, k1.trans (k2.mono k1.1)⟩
          · rw [hE]; rfl
          · rw [hE]; exact h2
end Go.AM
namespace Go.AM
open Go Go.Proofs
/-- How many numbers below k are used. -/
def cU (U : Nat → Bool) : Nat → Nat
  | 0 => 0
  | k + 1 => cU U k + (if U k then 1 else 0)
theorem len_filter (U : Nat → Bool) : ∀ (n : Nat), ((List.range n).filter U).length = cU U n
  | 0 => rfl
  | n + 1 => by
    rw [List.range_succ, List.filter_append, List.length_append, len_filter U n]
    show _ = cU U n + (if U n then 1 else 0)
    congr 1
    cases h : U n <;> simp [h]
theorem idxC_snoc : ∀ (l : List Int) (x c : Int) (i : Nat), idxC (l ++ [x]) c i = if c ∈ l then idxC l c i else if x = c then ((i + l.length : Nat) : Int) else -1
  | [], x, c, i => by
    show (if x = c then (i : Int) else -1) = _
    simp
  | a :: l, x, c, i => by
    show (if a = c then (i : Int) else idxC (l ++ [x]) c (i + 1)) = if c ∈ a :: l then (if a = c then (i : Int) else idxC l c (i + 1)) else _
    by_cases e : a = c
    · rw [if_pos e, if_pos (by rw [e]; simp), if_pos e]
    · rw [if_neg e, idxC_snoc l x c (i + 1)]
      by_cases e2 : c ∈ l
      · rw [if_pos e2, if_pos (by simp [e2]), if_neg e]
      · have hnm : ¬ c ∈ a :: l := fun h => by
          rcases List.mem_cons.1 h with h | h
          · exact e h.symm
          · exact e2 h
        rw [if_neg e2, if_neg hnm]
        by_cases e3 : x = c
        · rw [if_pos e3, if_pos e3, List.length_cons]
          congr 1
          omega
        · rw [if_neg e3, if_neg e3]
theorem idx_filter (U : Nat → Bool) : ∀ (n c : Nat), c < n → U c = true → idxC (((List.range n).filter U).map fun (j : Nat) => (j : Int)) (c : Int) 0 = (cU U c : Nat)
  | 0, c, h, _ => by omega
  | n + 1, c, h, hu => by
    rw [List.range_succ, List.filter_append, List.map_append]
    by_cases e : c = n
    · subst e
      have hs : [c].filter U = [c] := by simp [hu]
      rw [hs]
      show idxC (_ ++ [(c : Int)]) c 0 = _
      rw [idxC_snoc, if_neg (by simp; intro x hx _; omega), if_pos rfl, List.length_map, len_filter, Nat.zero_add]
    · have hm : (c : Int) ∈ ((List.range n).filter U).map fun (j : Nat) => (j : Int) := by
        simp only [List.mem_map, List.mem_filter, List.mem_range]
        exact ⟨c, ⟨by omega, hu⟩, rfl⟩
      cases hn : U n with
      | true =>
        have hs : [n].filter U = [n] := by simp [hn]
        rw [hs]
        show idxC (_ ++ [(n : Int)]) c 0 = _
        rw [idxC_snoc, if_pos hm]
        exact idx_filter U n c (by omega) hu
      | false =>
        have hs : [n].filter U = [] := by simp [hn]
        rw [hs, List.map_nil, List.append_nil]
        exact idx_filter U n c (by omega) hu
/-- The sorted distinct codes. -/
theorem dist_codes {l P : List Int} (h : Dist l P) (U : Nat → Bool) (hl : ∀ x ∈ l, 0 ≤ x ∧ x < 64) (hU : ∀ k : Nat, k < 64 → (U k = true ↔ (k : Int) ∈ l)) : P = ((List.range 64).filter U).map fun (j : Nat) => (j : Int) := by
  refine dist_uniq h.1 ?_ fun x => ?_
  · rw [List.pairwise_map]
    exact ((List.pairwise_lt_range (n := 64)).filter _).imp fun {a b} h => by omega
  · rw [h.2 x]
    simp only [List.mem_map, List.mem_filter, List.mem_range]
    constructor
    · intro hx
      have := hl x hx
      refine ⟨x.toNat, ⟨by omega, (hU _ (by omega)).2 ?_⟩, by omega⟩
      rw [Int.toNat_of_nonneg this.1]
      exact hx
    · rintro ⟨k, ⟨h1, h2⟩, rfl⟩
      exact (hU k h1).1 h2
/-- Without repetitions. -/
def dd : List Wg → List Wg → List Wg
  | [], acc => acc
  | t :: l, acc => dd l (if t ∈ acc then acc else acc ++ [t])
theorem dd_map {f : Wg → Wg} {Q : Wg → Prop} (hf : ∀ s t, Q s → Q t → f s = f t → s = t) : ∀ (l acc : List Wg), (∀ t ∈ l, Q t) → (∀ t ∈ acc, Q t) → dd (l.map f) (acc.map f) = (dd l acc).map f
  | [], acc, _, _ => rfl
  | t :: l, acc, hl, ha => by
    show dd (l.map f) (if f t ∈ acc.map f then acc.map f else acc.map f ++ [f t]) = (dd l (if t ∈ acc then acc else acc ++ [t])).map f
    have hiff : f t ∈ acc.map f ↔ t ∈ acc := by
      constructor
      · intro h
        obtain ⟨s, hs, e⟩ := List.mem_map.1 h
        rw [← hf s t (ha s hs) (hl t (by simp)) e]
        exact hs
      · exact fun h => List.mem_map.2 ⟨t, h, rfl⟩
    by_cases h : t ∈ acc
    · rw [if_pos h, if_pos (hiff.2 h)]
      exact dd_map hf l acc (fun s hs => hl s (by simp [hs])) ha
    · rw [if_neg h, if_neg (fun g => h (hiff.1 g)), show acc.map f ++ [f t] = (acc ++ [t]).map f by simp]
      refine dd_map hf l (acc ++ [t]) (fun s hs => hl s (by simp [hs])) fun s hs => ?_
      rcases List.mem_append.1 hs with hs | hs
      · exact ha s hs
      · simp at hs
        rw [hs]
        exact hl t (by simp)
theorem dd_app : ∀ (l l' acc : List Wg), dd (l ++ l') acc = dd l' (dd l acc)
  | [], _, _ => rfl
  | t :: l, l', acc => dd_app l l' _
/-- All products, with repetitions. -/
def pRow (s : Wg) (b : List Wg) : List Wg := (b.filter fun t => decide (s.2.2.1 = t.1)).map (jT s)
def pAll (a b : List Wg) : List Wg := a.flatMap fun s => pRow s b
def codesL (l : List Wg) : List Int := l.flatMap fun t => [t.2.1, t.2.2.2]
theorem jRow_eq (s : Wg) : ∀ (b : List Wg) (A : List Wg × List Int), jRow s b A = (dd (pRow s b) A.1, A.2 ++ codesL (pRow s b))
  | [], A => by simp [jRow, pRow, dd, codesL]
  | t :: b, A => by
    show jRow s b (jStep s t A) = _
    rw [jRow_eq s b]
    unfold jStep pRow
    by_cases h : s.2.2.1 = t.1
    · rw [if_pos h, List.filter_cons_of_pos (by simp [h])]
      show _ = (dd (_) (if jT s t ∈ A.1 then A.1 else A.1 ++ [jT s t]), A.2 ++ ([(jT s t).2.1, (jT s t).2.2.2] ++ codesL _))
      rw [← List.append_assoc]
    · rw [if_neg h, List.filter_cons_of_neg (by simp [h])]
theorem jAll_eq : ∀ (a b : List Wg) (A : List Wg × List Int), jAll a b A = (dd (pAll a b) A.1, A.2 ++ codesL (pAll a b))
  | [], b, A => by simp [jAll, pAll, dd, codesL]
  | s :: a, b, A => by
    show jAll a b (jRow s b A) = _
    rw [jAll_eq a b, jRow_eq]
    show (dd (pAll a b) (dd (pRow s b) A.1), (A.2 ++ codesL (pRow s b)) ++ codesL (pAll a b)) = (dd (pRow s b ++ pAll a b) A.1, A.2 ++ codesL (pRow s b ++ pAll a b))
    rw [dd_app, List.append_assoc]
    unfold codesL
    rw [List.flatMap_append]
end Go.AM
namespace Go.AM
open Go Go.Proofs
theorem r44_L0_s (call : CallF) (fuel base : Nat) (kx0 : Value → Value → M → Res2) (n : Nat) (x0 x1 x6 x7 x8 : Value) (m : M) : r44_L0 call fuel base kx0 (n + 1) x0 x1 x6 x7 x8 m =
    (k2 (vcalln E.P base m .len [22] [x0]) fun v30_6 m => (k1n (mbin E .lss 3 x8 v30_6) fun v31_7 => (kb v31_7 (r44_L2 call fuel base (fun y0_52 y1_53 y6_54 y7_55 y8_56 m => (k1n (mbin E .add 3 y8_56 (.int .i64 1)) fun v33_57 => (r44_L0 call fuel base kx0 n y0_52 y1_53 y6_54 y7_55 v33_57 m))) fuel x0 x1 x6 x7 x8 (.int .i64 0) m) (kx0 x6 x7 m)))) := by
  unfold r44_L0
  rw [k1_fun, vcall_fun]
theorem r44_L2_s (call : CallF) (fuel base : Nat) (kx2 : Value → Value → Value → Value → Value → M → Res2) (n : Nat) (x0 x1 x6 x7 x8 x9 : Value) (m : M) : r44_L2 call fuel base kx2 (n + 1) x0 x1 x6 x7 x8 x9 m =
    (k2 (vcalln E.P base m .len [22] [x1]) fun v36_8 m => (k1n (mbin E .lss 3 x9 v36_8) fun v37_9 => (kb v37_9 (k1n (mindexAddr E.P 22 x0 x8) fun v42_10 => (k1n (mfieldAddr E.P 45 v42_10 2) fun v43_11 => (k1n (xload E.P m 3 v43_11) fun v44_12 => (k1n (mindexAddr E.P 22 x1 x9) fun v47_13 => (k1n (mfieldAddr E.P 45 v47_13 0) fun v48_14 => (k1n (xload E.P m 3 v48_14) fun v49_15 => (k1n (mbin E .neq 3 v44_12 v49_15) fun v50_16 => (kb v50_16 (k1n (mbin E .add 3 x9 (.int .i64 1)) fun v39_17 => (r44_L2 call fuel base kx2 n x0 x1 x6 x7 x8 v39_17 m)) (k1n (mindexAddr E.P 22 x0 x8) fun v53_18 => (k1n (mfieldAddr E.P 45 v53_18 0) fun v54_19 => (k1n (xload E.P m 3 v54_19) fun v55_20 => (k1n (mindexAddr E.P 22 x1 x9) fun v58_21 => (k1n (mfieldAddr E.P 45 v58_21 2) fun v59_22 => (k1n (xload E.P m 3 v59_22) fun v60_23 => (k1n (mindexAddr E.P 22 x0 x8) fun v63_24 => (k1n (mfieldAddr E.P 45 v63_24 1) fun v64_25 => (k1n (xload E.P m 3 v64_25) fun v65_26 => (k1n (mbin E .mul 3 v65_26 (.int .i64 8)) fun v66_27 => (k1n (mindexAddr E.P 22 x1 x9) fun v69_28 => (k1n (mfieldAddr E.P 45 v69_28 1) fun v70_29 => (k1n (xload E.P m 3 v70_29) fun v71_30 => (k1n (mbin E .add 3 v66_27 v71_30) fun v72_31 => (k1n (mindexAddr E.P 22 x0 x8) fun v75_32 => (k1n (mfieldAddr E.P 45 v75_32 3) fun v76_33 => (k1n (xload E.P m 3 v76_33) fun v77_34 => (k1n (mbin E .mul 3 v77_34 (.int .i64 8)) fun v78_35 => (k1n (mindexAddr E.P 22 x1 x9) fun v81_36 => (k1n (mfieldAddr E.P 45 v81_36 3) fun v82_37 => (k1n (xload E.P m 3 v82_37) fun v83_38 => (k1n (mbin E .add 3 v78_35 v83_38) fun v84_39 => (k1n (mbuild E.P 45 [(0, v55_20), (2, v60_23), (1, v72_31), (3, v84_39)]) fun v85_40 => (k2 (xalloc E.P m 45) fun v10_41 m => (ks (xstore E.P base m 45 v10_41 v85_40) fun m => (k1n (mfieldAddr E.P 45 v10_41 1) fun v87_42 => (k1n (xload E.P m 3 v87_42) fun v88_43 => (k1n (mindexAddr E.P 91 x6 v88_43) fun v89_44 => (ks (xstore E.P base m 4 v89_44 (.bool true)) fun m => (k1n (mfieldAddr E.P 45 v10_41 3) fun v91_45 => (k1n (xload E.P m 3 v91_45) fun v92_46 => (k1n (mindexAddr E.P 91 x6 v92_46) fun v93_47 => (ks (xstore E.P base m 4 v93_47 (.bool true)) fun m => (k1n (xload E.P m 45 v10_41) fun v95_48 => (k2 (xbuildSlice E.P m 22 1 [(0, v95_48)]) fun v96_49 m => (k2 (vcalln E.P base m .append [22, 22] [x7, v96_49]) fun v97_50 m => (k1n (mbin E .add 3 x9 (.int .i64 1)) fun v39_51 => (r44_L2 call fuel base kx2 n x0 x1 x6 v97_50 x8 v39_51 m)))))))))))))))))))))))))))))))))))))))))))))) (kx2 x0 x1 x6 x7 x8 m)))) := by
  unfold r44_L2
  rw [k1_fun, vcall_fun]
theorem r44_L4_s (call : CallF) (fuel base : Nat) (kx4 : Value → Value → Value → M → Res2) (n : Nat) (x6 x7 x11 x12 x13 : Value) (m : M) : r44_L4 call fuel base kx4 (n + 1) x6 x7 x11 x12 x13 m =
    (k1n (mbin E .lss 3 x13 (.int .i64 64)) fun v100_61 => (kb v100_61 (k1n (mindexAddr E.P 33 x11 x13) fun v106_62 => (ks (xstore E.P base m 3 v106_62 x12) fun m => (k1n (mindexAddr E.P 91 x6 x13) fun v109_63 => (k1n (xload E.P m 4 v109_63) fun v110_64 => (kb v110_64 (k1n (mbin E .add 3 x12 (.int .i64 1)) fun v112_65 => (k1n (mbin E .add 3 x13 (.int .i64 1)) fun v102_66 => (r44_L4 call fuel base kx4 n x6 x7 x11 v112_65 v102_66 m))) (k1n (mbin E .add 3 x13 (.int .i64 1)) fun v102_67 => (r44_L4 call fuel base kx4 n x6 x7 x11 x12 v102_67 m))))))) (kx4 x7 x11 x12 m))) := by
  unfold r44_L4
  rw [k1_fun]
theorem r44_L6_s (call : CallF) (fuel base : Nat) (kx6 : Value → Value → M → Res2) (n : Nat) (x7 x11 x12 x14 x15 : Value) (m : M) : r44_L6 call fuel base kx6 (n + 1) x7 x11 x12 x14 x15 m =
    (k2 (vcalln E.P base m .len [22] [x7]) fun v115_71 m => (k1n (mbin E .lss 3 x15 v115_71) fun v116_72 => (kb v116_72 (k1n (mindexAddr E.P 22 x7 x15) fun v121_73 => (k1n (xload E.P m 45 v121_73) fun v122_74 => (k2 (xalloc E.P m 45) fun v16_75 m => (ks (xstore E.P base m 45 v16_75 v122_74) fun m => (k1n (mfieldAddr E.P 45 v16_75 1) fun v124_76 => (k1n (xload E.P m 3 v124_76) fun v125_77 => (k1n (mindexAddr E.P 33 x11 v125_77) fun v126_78 => (k1n (xload E.P m 3 v126_78) fun v127_79 => (k1n (mfieldAddr E.P 45 v16_75 1) fun v128_80 => (ks (xstore E.P base m 3 v128_80 v127_79) fun m => (k1n (mfieldAddr E.P 45 v16_75 3) fun v130_81 => (k1n (xload E.P m 3 v130_81) fun v131_82 => (k1n (mindexAddr E.P 33 x11 v131_82) fun v132_83 => (k1n (xload E.P m 3 v132_83) fun v133_84 => (k1n (mfieldAddr E.P 45 v16_75 3) fun v134_85 => (ks (xstore E.P base m 3 v134_85 v133_84) fun m => (r44_L8 call fuel base (fun y7_94 y11_95 y12_96 y14_97 y15_98 y16_99 y17_100 m => (k1n (mun .not y17_100) fun v151_101 => (kb v151_101 (k1n (xload E.P m 45 y16_99) fun v153_102 => (k2 (xbuildSlice E.P m 22 1 [(0, v153_102)]) fun v154_103 m => (k2 (vcalln E.P base m .append [22, 22] [y14_97, v154_103]) fun v155_104 m => (k1n (mbin E .add 3 y15_98 (.int .i64 1)) fun v118_105 => (r44_L6 call fuel base kx6 n y7_94 y11_95 y12_96 v155_104 v118_105 m))))) (k1n (mbin E .add 3 y15_98 (.int .i64 1)) fun v118_106 => (r44_L6 call fuel base kx6 n y7_94 y11_95 y12_96 y14_97 v118_106 m))))) fuel x7 x11 x12 x14 x15 v16_75 (.bool false) (.int .i64 0) m))))))))))))))))) (kx6 x12 x14 m)))) := by
  unfold r44_L6
  rw [k1_fun, vcall_fun]
theorem r44_L8_s (call : CallF) (fuel base : Nat) (kx8 : Value → Value → Value → Value → Value → Value → Value → M → Res2) (n : Nat) (x7 x11 x12 x14 x15 x16 x17 x18 : Value) (m : M) : r44_L8 call fuel base kx8 (n + 1) x7 x11 x12 x14 x15 x16 x17 x18 m =
    (k2 (vcalln E.P base m .len [22] [x14]) fun v137_86 m => (k1n (mbin E .lss 3 x18 v137_86) fun v138_87 => (kb v138_87 (kb x17 (k1n (mbin E .add 3 x18 (.int .i64 1)) fun v140_88 => (r44_L8 call fuel base kx8 n x7 x11 x12 x14 x15 x16 (.bool true) v140_88 m)) (k1n (mindexAddr E.P 22 x14 x18) fun v145_89 => (k1n (xload E.P m 45 v145_89) fun v146_90 => (k1n (xload E.P m 45 x16) fun v147_91 => (k1n (mbin E .eql 45 v146_90 v147_91) fun v148_92 => (k1n (mbin E .add 3 x18 (.int .i64 1)) fun v140_93 => (r44_L8 call fuel base kx8 n x7 x11 x12 x14 x15 x16 v148_92 v140_93 m))))))) (kx8 x7 x11 x12 x14 x15 x16 x17 m)))) := by
  unfold r44_L8
  rw [k1_fun, vcall_fun]
/-- Which codes are used. -/
def BoolM (m : M) (p : Nat) (U : Nat → Bool) : Prop := m[p]? = some (rowz 1 true ((List.range 64).map fun j => .bool (U j)))
theorem BoolM.ld {m : M} {p : Nat} {U : Nat → Bool} (h : BoolM m p U) {k : Nat} (hk : k < 64) (K : Value → Res2) : (k1n (mindexAddr E.P 91 (sl p 64) (vi k)) fun a => k1n (xload E.P m 4 a) K) = K (.bool (U k)) := by
  rw [ix91 _ _ _ _ hk, k1s, ld4]
  unfold mcell
  rw [h]
  have : ((List.range 64).map fun j => Value.bool (U j))[k]? = some (.bool (U k)) := by
    rw [List.getElem?_map, List.getElem?_range hk]
    rfl
  show k1n (((List.range 64).map fun j => Value.bool (U j))[k]?) K = _
  rw [this, k1s]
theorem BoolM.st {base : Nat} {m : M} {p : Nat} {U : Nat → Bool} (h : BoolM m p U) (hb : base ≤ p) {k : Nat} (hk : k < 64) : ∃ m', (∀ K : M → Res2, (k1n (mindexAddr E.P 91 (sl p 64) (vi k)) fun a => ks (xstore E.P base m 4 a (.bool true)) K) = K m') ∧ BoolM m' p (fun j => if j = k then true else U j) ∧ m'.length = m.length ∧ ∀ i, i ≠ p → m'[i]? = m[i]? := by
  refine ⟨m.set p (rowz 1 true (((List.range 64).map fun j => Value.bool (U j)).set k (.bool true))), fun K => ?_, ?_, by simp, fun i hi => List.getElem?_set_ne (Ne.symm hi)⟩
  · rw [ix91 _ _ _ _ hk, k1s, st4, mwrite_one hb h rfl (by show k < ((List.range 64).map _).length; simpa using hk) rfl, kss]
    rfl
  · show (m.set p _)[p]? = _
    rw [List.getElem?_set_self (List.getElem?_eq_some_iff.1 h).1, set_range hk (fun j => Value.bool (U j))]
    congr 2
    apply List.map_congr_left
    intro i _
    by_cases e : i = k
    · rw [if_pos e]; show _ = Value.bool (if i = k then true else U i); rw [if_pos e]
    · rw [if_neg e]; show _ = Value.bool (if i = k then true else U i); rw [if_neg e]
theorem loop44d (call : CallF) (fuel base : Nat) (kx : Value → Value → Value → M → Res2) (x7 : Value) {pu pn : Nat} {U : Nat → Bool} (hbb : base ≤ pn) (hne : pu ≠ pn) :
    ∀ (n i : Nat) (m : M), BoolM m pu U → ArrM true m pn 64 (fun j => if j < i then (cU U j : Nat) else 0) → i ≤ 64 → 64 < n + i →
      ∃ m', r44_L4 call fuel base kx n (sl pu 64) x7 (sl pn 64) (vi (cU U i)) (vi i) m = kx x7 (sl pn 64) (vi (cU U 64)) m' ∧ ArrM true m' pn 64 (fun j => (cU U j : Nat)) ∧ m'.length = m.length ∧ ∀ r, r ≠ pn → m'[r]? = m[r]?
  | 0, i, m, hU, hA, h1, hn => by omega
  | n + 1, i, m, hU, hA, h1, hn => by
    have hcu : ∀ k, cU U k ≤ k := fun k => by
      induction k with
      | zero => exact Nat.le_refl _
      | succ k ih =>
        show cU U k + (if U k then 1 else 0) ≤ k + 1
        split <;> omega
    rw [r44_L4_s, show (.int .i64 64 : Value) = vi (64 : Nat) from rfl, lss3, k1s]
    by_cases hlt : i < 64
    · obtain ⟨m1, e1, A1, l1, o1⟩ := hA.st hbb hlt (cU U i : Nat)
      have U1 : BoolM m1 pu U := by unfold BoolM; rw [o1 pu hne]; exact hU
      have A2 : ArrM true m1 pn 64 (fun j => if j < i + 1 then (cU U j : Nat) else 0) := A1.congr fun j _ => by
        by_cases e : j = i
        · rw [if_pos e, if_pos (by omega), e]
        · rw [if_neg e]
          by_cases e2 : j < i
          · rw [if_pos e2, if_pos (by omega)]
          · rw [if_neg e2, if_neg (by omega)]
      have hi := hcu i
      rw [decide_eq_true (show (i : Int) < (64 : Nat) by omega), kbt, ix33 _ _ _ _ hlt, k1s, e1, kss, U1.ld hlt]
      cases hu : U i with
      | true =>
        have hc : cU U (i + 1) = cU U i + 1 := by show cU U i + (if U i then 1 else 0) = _; rw [hu]; rfl
        rw [kbt, add1 (cU U i) (by omega), k1s, add1 i (by omega), k1s, ← hc]
        obtain ⟨m', z1, z2, z3, z4⟩ := loop44d call fuel base kx x7 hbb hne n (i + 1) m1 U1 A2 (by omega) (by omega)
        exact ⟨m', z1, z2, z3.trans l1, fun r hr => (z4 r hr).trans (o1 r hr)⟩
      | false =>
        have hc : cU U (i + 1) = cU U i := by show cU U i + (if U i then 1 else 0) = _; rw [hu]; rfl
        rw [kbf, add1 i (by omega), k1s, ← hc]
        obtain ⟨m', z1, z2, z3, z4⟩ := loop44d call fuel base kx x7 hbb hne n (i + 1) m1 U1 A2 (by omega) (by omega)
        exact ⟨m', z1, z2, z3.trans l1, fun r hr => (z4 r hr).trans (o1 r hr)⟩
    · have hi : i = 64 := by omega
      subst hi
      rw [decide_eq_false (by omega), kbf]
      exact ⟨m, rfl, hA.congr fun j hj => if_pos hj, rfl, fun _ _ => rfl⟩
theorem loop44h (call : CallF) (fuel base : Nat) (kx : Value → Value → Value → Value → Value → Value → Value → M → Res2) (x7 x11 x12 x15 : Value) {m : M} {v : Value} {l : List Wg} (hT : Tiles m v l) (hl : l.length ≤ 1000) {q : Nat} {t : Wg} (hq : m[q]? = some (cellR (tC t))) :
    ∀ (n i : Nat) (z : Bool), i ≤ l.length → l.length < n + i → r44_L8 call fuel base kx n x7 x11 x12 v x15 (pt q 0) (.bool z) (vi i) m = kx x7 x11 x12 v x15 (pt q 0) (.bool (z || decide (t ∈ l.drop i))) m
  | 0, i, z, h1, hn => by omega
  | n + 1, i, z, h1, hn => by
    rw [r44_L8_s, hT.len, k2s, lss3, k1s]
    by_cases hlt : i < l.length
    · rw [decide_eq_true (show (i : Int) < l.length by omega), kbt, add1 i (by omega), List.drop_eq_getElem_cons hlt]
      cases z with
      | true =>
        rw [kbt, k1s, loop44h call fuel base kx x7 x11 x12 x15 hT hl hq n (i + 1) true (by omega) (by omega), Bool.true_or, Bool.true_or]
      | false =>
        have hld : ∀ K : Value → Res2, k1n (xload E.P m 45 (pt q 0)) K = K (tV t) := by
          obtain ⟨a, b, c, d⟩ := t
          exact (boxF hq).2.2
        rw [kbf, hT.get hlt, hld, eq45, k1s, k1s, loop44h call fuel base kx x7 x11 x12 x15 hT hl hq n (i + 1) _ (by omega) (by omega), Bool.false_or]
        congr 3
        by_cases e : t = l[i]
        · rw [decide_eq_true e.symm, Bool.true_or, decide_eq_true (List.mem_cons.2 (.inl e))]
        · rw [decide_eq_false (fun h => e h.symm), Bool.false_or]
          by_cases e2 : t ∈ l.drop (i + 1)
          · rw [decide_eq_true e2, decide_eq_true (List.mem_cons_of_mem _ e2)]
          · rw [decide_eq_false e2, decide_eq_false (fun h => by
              rcases List.mem_cons.1 h with h | h
              · exact e h
              · exact e2 h)]
    · rw [decide_eq_false (show ¬ (i : Int) < l.length by omega), kbf, List.drop_eq_nil_of_le (by omega)]
      simp
end Go.AM
namespace Go.AM
open Go Go.Proofs
def renF (F : Nat → Int) (t : Wg) : Wg := (t.1, F t.2.1.toNat, t.2.2.1, F t.2.2.2.toNat)
def codeT (t : Wg) : Prop := (0 ≤ t.2.1 ∧ t.2.1 < 64) ∧ 0 ≤ t.2.2.2 ∧ t.2.2.2 < 64
set_option maxHeartbeats 2000000 in
theorem loop44f (call : CallF) (fuel base : Nat) (kx : Value → Value → M → Res2) (x12 : Value) {m0 : M} {v7 : Value} {L : List Wg} {pn : Nat} {F : Nat → Int} (hbb : base ≤ m0.length) (hT : Tiles m0 v7 L) (hL : L.length ≤ 500) (hc : ∀ t ∈ L, codeT t) (hF : ArrM true m0 pn 64 F) (hf : 600 ≤ fuel) :
    ∀ (n i : Nat) (m : M) (vO : Value) (O : List Wg), GT m0.length m vO O → Keeps m0.length m0 m → i ≤ L.length → L.length < n + i → O.length ≤ i →
      ∃ (m' : M) (vO' : Value), r44_L6 call fuel base kx n v7 (sl pn 64) x12 vO (vi i) m = kx x12 vO' m' ∧ GT m0.length m' vO' (dd ((L.drop i).map (renF F)) O) ∧ Keeps m0.length m0 m'
  | 0, i, m, vO, O, hO, hk, h1, hn, hs => by omega
  | n + 1, i, m, vO, O, hO, hk, h1, hn, hs => by
    rw [r44_L6_s, (hT.keeps hk).len, k2s, lss3, k1s]
    by_cases hlt : i < L.length
    · have hkl := hk.1
      obtain ⟨a, b, c, d, ht⟩ : ∃ a b c d : Int, L[i] = (a, b, c, d) := ⟨_, _, _, _, rfl⟩
      have hct := hc L[i] (List.getElem_mem hlt)
      rw [ht] at hct
      obtain ⟨⟨hb1, hb2⟩, hd1, hd2⟩ := hct
      obtain ⟨bk, rfl⟩ : ∃ k : Nat, b = k := ⟨b.toNat, by simp at hb1; omega⟩
      obtain ⟨dk, rfl⟩ : ∃ k : Nat, d = k := ⟨d.toNat, by simp at hd1; omega⟩
      have hbk : bk < 64 := by simp at hb2; omega
      have hdk : dk < 64 := by simp at hd2; omega
      have hbox : (m ++ [cellR [vi a, vi bk, vi c, vi dk]])[m.length]? = some (cellR [vi a, vi bk, vi c, vi dk]) := by simp
      obtain ⟨f1, _, _⟩ := boxF hbox
      obtain ⟨g1, _⟩ := boxS (base := base) (by omega) hbox (F bk)
      have hbox2 : ((m ++ [cellR [vi a, vi bk, vi c, vi dk]]).set m.length (cellR [vi a, vi (F bk), vi c, vi dk]))[m.length]? = some (cellR [vi a, vi (F bk), vi c, vi dk]) := List.getElem?_set_self (by simp)
      obtain ⟨_, f3, _⟩ := boxF hbox2
      obtain ⟨_, g3⟩ := boxS (base := base) (by omega) hbox2 (F dk)
      have hbox3 : (((m ++ [cellR [vi a, vi bk, vi c, vi dk]]).set m.length (cellR [vi a, vi (F bk), vi c, vi dk])).set m.length (cellR [vi a, vi (F bk), vi c, vi (F dk)]))[m.length]? = some (cellR [vi a, vi (F bk), vi c, vi (F dk)]) := List.getElem?_set_self (by simp)
      obtain ⟨_, _, f5⟩ := boxF hbox3
      have hs2 : ∀ r, r < m.length → (((m ++ [cellR [vi a, vi bk, vi c, vi dk]]).set m.length (cellR [vi a, vi (F bk), vi c, vi dk])).set m.length (cellR [vi a, vi (F bk), vi c, vi (F dk)]))[r]? = m[r]? := fun r hr => by
        rw [List.getElem?_set_ne (by omega), List.getElem?_set_ne (by omega), List.getElem?_append_left hr]
      have hk3 : Keeps m0.length m0 (((m ++ [cellR [vi a, vi bk, vi c, vi dk]]).set m.length (cellR [vi a, vi (F bk), vi c, vi dk])).set m.length (cellR [vi a, vi (F bk), vi c, vi (F dk)])) := ⟨by simp; omega, fun r hr => by rw [hs2 r (by omega)]; exact hk.2 r hr⟩
      have hF1 : ArrM true (m ++ [cellR [vi a, vi bk, vi c, vi dk]]) pn 64 F := by
        have hp := (List.getElem?_eq_some_iff.1 hF).1
        unfold ArrM
        rw [List.getElem?_append_left (by omega), hk.2 pn hp]
        exact hF
      have hF2 : ArrM true ((m ++ [cellR [vi a, vi bk, vi c, vi dk]]).set m.length (cellR [vi a, vi (F bk), vi c, vi dk])) pn 64 F := by
        have hp := (List.getElem?_eq_some_iff.1 hF).1
        unfold ArrM
        rw [List.getElem?_set_ne (by omega)]
        exact hF1
      have hO3 : GT m0.length (((m ++ [cellR [vi a, vi bk, vi c, vi dk]]).set m.length (cellR [vi a, vi (F bk), vi c, vi dk])).set m.length (cellR [vi a, vi (F bk), vi c, vi (F dk)])) vO O := Grow.via hO fun r n' e => hs2 r (Grow.lt hO e)
      rw [decide_eq_true (show (i : Int) < L.length by omega), kbt, (hT.keeps hk).get hlt, ht, letT (by omega), show cellR (tC (a, (bk : Int), c, (dk : Int))) = cellR [vi a, vi bk, vi c, vi dk] from rfl, f1, hF1.get hbk, g1, f3, hF2.get hdk, g3]
      generalize ((m ++ [cellR [vi a, vi bk, vi c, vi dk]]).set m.length (cellR [vi a, vi (F bk), vi c, vi dk])).set m.length (cellR [vi a, vi (F bk), vi c, vi (F dk)]) = m3 at hbox3 f5 hk3 hO3
      rw [i0, loop44h call fuel base _ v7 (sl pn 64) x12 (vi i) hO3.tiles (by omega) (t := (a, F bk, c, F dk)) hbox3 fuel 0 false (Nat.zero_le _) (by omega), Bool.false_or, List.drop_zero, not4, k1s, List.drop_eq_getElem_cons hlt, ht]
      show ∃ (m' : M) (vO' : Value), _ ∧ GT m0.length m' vO' (dd ((L.drop (i + 1)).map (renF F)) (if renF F (a, (bk : Int), c, (dk : Int)) ∈ O then O else O ++ [renF F (a, (bk : Int), c, (dk : Int))])) ∧ _
      have hre : renF F (a, (bk : Int), c, (dk : Int)) = (a, F bk, c, F dk) := by
        unfold renF
        simp
      rw [hre]
      by_cases hin : (a, F bk, c, F dk) ∈ O
      · rw [decide_eq_true hin, Bool.not_true, kbf, add1 i (by omega), k1s, if_pos hin]
        exact loop44f call fuel base kx x12 hbb hT hL hc hF hf n (i + 1) m3 vO O hO3 hk3 (by omega) (by omega) (by omega)
      · obtain ⟨vO', m4, e4, g4, k4, _, _⟩ := gg22 hO3 (by omega) hbb hk3.1 a (F bk) c (F dk)
        rw [decide_eq_false hin, Bool.not_false, kbt, f5, e4, add1 i (by omega), k1s, if_neg hin]
        refine loop44f call fuel base kx x12 hbb hT hL hc hF hf n (i + 1) m4 vO' _ ?_ (hk3.trans k4) (by omega) (by omega) (by simp; omega)
        show Grow 4 m0.length m4 vO' ((O ++ [(a, F bk, c, F dk)]).flatMap tC) (O ++ [(a, F bk, c, F dk)]).length
        rw [List.flatMap_append, List.length_append]
        simpa using g4
    · rw [decide_eq_false (show ¬ (i : Int) < L.length by omega), kbf, List.drop_eq_nil_of_le (by omega)]
      exact ⟨m, vO, rfl, hO, hk⟩
end Go.AM
