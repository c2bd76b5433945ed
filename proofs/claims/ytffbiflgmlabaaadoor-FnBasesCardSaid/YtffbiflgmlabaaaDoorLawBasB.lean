/-
  The law of bases, walked: capacities.
-/
import Derived.Test.YtffbiflgmlabaaaDoorLawBasC
namespace Go.Proofs.YtffbiflgmlabaaaDoor.C
open Go.RowKit M K
set_option linter.unusedVariables false
set_option linter.unusedSimpArgs false

set_option maxRecDepth 100000 in
set_option maxHeartbeats 16000000 in
theorem law_bases_B (T : World → Prop) (stay : ∀ W W', T W → Below W.heap.size W W' → T W') (a : Option Addr) (len cap : Nat) (w : World) (hl : len ≤ 1048576) (hy : Hid (Bytes w.heap.size w (.slice a len cap) len)) (HT : Hid (T w))
    (iTight : Hid (∀ (W : World) (n : Int) (A : Option Addr) (xs : List Int) (c : Nat) (D : Option Addr) (ys : List Int) (d : Nat), T W → Hid (Ints W W.heap.size A xs) → Hid (Ints W W.heap.size D ys) → ys.length ≤ 1048576 → Calls Tryd.prog 10 #[.agg #[.int .i64 n, .slice A xs.length c], .slice D ys.length d] W (RetIB W (tightSets n xs ys).1 (tightSets n xs ys).2)))
    (iBelow : Hid (∀ (W : World) (n : Int) (A : Option Addr) (xs : List Int) (c : Nat) (D : Option Addr) (ys : List Int) (d : Nat), T W → Hid (Ints W W.heap.size A xs) → Hid (Ints W W.heap.size D ys) → ys.length ≤ 1048576 → Calls Tryd.prog 13 #[.agg #[.int .i64 n, .slice A xs.length c], .slice D ys.length d] W (RetV W (.bool (isBelow n xs ys)))))
    (iBase : Hid (∀ (W : World) (n : Int) (A : Option Addr) (xs : List Int) (c : Nat) (D : Option Addr) (ys : List Int) (d : Nat), T W → Hid (Ints W W.heap.size A xs) → Hid (Ints W W.heap.size D ys) → ys.length ≤ 1048576 → Calls Tryd.prog 14 #[.agg #[.int .i64 n, .slice A xs.length c], .slice D ys.length d] W (RetV W (.bool (isBase n xs ys)))))
    (iLat : Hid (∀ (W : World) (A : Option Addr) (xs : List Int) (c : Nat), T W → Hid (Ints W W.heap.size A xs) → xs.length ≤ 1048576 → Calls Tryd.prog 18 #[.slice A xs.length c] W (RetV W (.bool (isLat xs)))))
    (iCap : Hid (∀ (W : World) (n : Int) (A : Option Addr) (xs : List Int) (c : Nat) (D : Option Addr) (ys : List Int) (d : Nat) (e : Int), T W → Hid (Ints W W.heap.size A xs) → Hid (Ints W W.heap.size D ys) → ys.length ≤ 1048576 → Calls Tryd.prog 20 #[.agg #[.int .i64 n, .slice A xs.length c], .slice D ys.length d, .int .i64 e] W (RetV W (.tuple #[.int .i64 (capOf n xs ys e).1, .bool (capOf n xs ys e).2]))))
    (iExch : Hid (∀ (W : World) (n : Int) (A : Option Addr) (xs : List Int) (c : Nat) (D : Option Addr) (ys : List Int) (d : Nat) (e h : Int), T W → Hid (Ints W W.heap.size A xs) → Hid (Ints W W.heap.size D ys) → ys.length ≤ 1048576 → Calls Tryd.prog 23 #[.agg #[.int .i64 n, .slice A xs.length c], .slice D ys.length d, .int .i64 e, .int .i64 h] W (RetV W (.tuple #[.int .i64 (exchOf n xs ys e h).1, .bool (exchOf n xs ys e h).2]))))
    (iCor : Hid (∀ (W : World) (n : Int) (A : Option Addr) (xs : List Int) (c : Nat) (D : Option Addr) (ys : List Int) (d : Nat), T W → Hid (Ints W W.heap.size A xs) → Hid (Ints W W.heap.size D ys) → ys.length ≤ 1048576 → Calls Tryd.prog 26 #[.agg #[.int .i64 n, .slice A xs.length c], .slice D ys.length d] W (RetIB W (cornerOf n xs ys).1 (cornerOf n xs ys).2)))
    (iRaise : Hid (∀ (W : World) (n : Int) (A : Option Addr) (xs : List Int) (c : Nat) (D : Option Addr) (ys : List Int) (d : Nat) (E : Option Addr) (ms : List Int) (k : Nat), T W → Hid (Ints W W.heap.size A xs) → Hid (Ints W W.heap.size D ys) → ys.length ≤ 1048576 → Hid (Ints W W.heap.size E ms) → ms.length ≤ 1048576 → Calls Tryd.prog 29 #[.agg #[.int .i64 n, .slice A xs.length c], .slice D ys.length d, .slice E ms.length k] W (RetIB W (raiseVec n xs ys ms).1 (raiseVec n xs ys ms).2)))
    (iIsD : Hid (∀ (W : World) (n : Int) (A : Option Addr) (xs : List Int) (c : Nat) (D : Option Addr) (ys : List Int) (d : Nat), T W → Hid (Ints W W.heap.size A xs) → Hid (Ints W W.heap.size D ys) → ys.length ≤ 1048576 → Calls Tryd.prog 40 #[.agg #[.int .i64 n, .slice A xs.length c], .slice D ys.length d] W (RetV W (.bool (isDual n xs ys)))))
    (iRank : Hid (∀ (W : World) (n : Int) (A : Option Addr) (xs : List Int) (c : Nat) (D : Option Addr) (ys : List Int) (d : Nat), T W → Hid (Ints W W.heap.size A xs) → Hid (Ints W W.heap.size D ys) → ys.length ≤ 1048576 → Calls Tryd.prog 33 #[.agg #[.int .i64 n, .slice A xs.length c], .slice D ys.length d] W (RetV W (.tuple #[.int .i64 (rankVec n xs ys).1, .bool (rankVec n xs ys).2]))))
    (iNeg : Hid (∀ (W : World) (A : Option Addr) (xs : List Int) (c : Nat), T W → Hid (Ints W W.heap.size A xs) → xs.length ≤ 1048576 → Calls Tryd.prog 36 #[.slice A xs.length c] W (RetV W (.tuple #[.int .i64 (negPart xs).1, .bool (negPart xs).2]))))
    (iVal : Hid (∀ (W : World) (n : Int) (A : Option Addr) (xs : List Int) (c : Nat) (s : Int), T W → Hid (Ints W W.heap.size A xs) → Calls Tryd.prog 39 #[.agg #[.int .i64 n, .slice A xs.length c], .int .i64 s] W (RetV W (.int .i64 (valueOf n xs s)))))
    (l_1 l_2 l_3 l_4 l_5 l_6 l_7 l_8 l_9 l_10 l_11 l_12 l_13 l_14 l_15 l_16 l_17 l_18 l_19 l_20 l_21 l_22 l_23 l_24 l_25 l_26 l_27 l_28 l_29 l_30 l_31 l_32 l_33 l_34 l_35 l_36 l_37 l_38 l_39 l_40 l_41 l_42 l_43 l_44 l_45 l_46 l_47 l_48 l_49 l_50 l_51 l_52 l_53 l_54 l_55 l_56 l_57 l_58 l_59 l_60 l_61 l_62 l_63 l_64 l_65 l_66 l_67 l_68 l_69 l_70 l_71 l_72 l_73 l_74 l_75 l_76 l_77 l_78 l_79 l_80 l_81 l_82 l_83 l_84 l_85 l_86 l_87 l_88 l_89 l_90 l_91 l_92 l_93 l_94 l_95 l_96 l_97 l_98 l_99 l_100 l_101 l_102 l_103 l_104 l_105 l_106 l_107 l_108 l_109 l_110 l_111 l_112 l_113 l_114 l_115 l_116 l_117 l_118 l_119 l_120 l_121 l_122 l_123 l_124 l_125 l_126 l_127 l_128 l_129 l_130 l_131 l_132 l_133 l_134 l_135 l_136 l_137 l_138 l_139 l_140 l_141 l_142 l_143 l_144 l_145 l_146 l_147 l_148 l_149 l_150 l_151 l_152 l_153 l_154 l_155 l_156 l_157 l_158 l_159 l_160 l_161 l_162 l_163 l_164 l_165 l_166 l_167 l_168 l_169 l_170 l_171 l_172 l_173 l_174 l_175 l_176 l_177 l_178 l_179 l_180 l_181 l_182 l_183 l_184 l_185 l_186 l_187 l_188 l_189 l_190 l_191 l_192 l_193 l_194 l_195 l_196 l_197 l_198 l_199 l_200 l_201 l_202 l_203 l_204 l_205 l_206 l_207 l_208 l_209 l_210 l_211 l_212 l_213 l_214 l_215 l_216 l_217 l_218 l_219 l_220 l_221 l_222 l_223 l_224 l_225 l_226 l_227 l_228 l_229 l_230 l_231 l_232 l_233 l_234 l_235 l_236 l_237 l_238 l_239 l_240 l_241 l_242 l_243 l_244 l_245 l_246 l_247 l_248 l_249 l_250 l_251 l_252 l_253 l_254 l_255 l_256 l_257 l_258 l_259 l_260 l_261 l_262 l_263 l_264 l_265 l_266 l_267 l_268 l_269 l_270 l_271 l_272 l_273 l_274 l_275 l_276 l_277 l_278 l_279 l_280 l_281 l_282 l_283 l_284 l_285 l_286 l_287 l_288 l_289 l_290 l_291 l_292 l_293 l_294 l_295 l_296 l_297 l_298 l_299 l_300 l_301 l_302 l_303 l_304 l_305 l_306 l_307 l_308 l_309 l_310 l_311 l_312 l_313 l_314 l_315 l_316 l_317 l_318 l_319 l_320 l_321 l_322 l_323 l_324 l_325 l_326 l_327 l_328 l_329 l_330 l_331 l_332 l_333 l_334 l_335 l_336 l_337 l_338 l_339 l_340 l_341 l_342 l_343 l_344 l_345 l_346 l_347 l_348 l_349 l_350 l_351 l_352 l_353 l_354 l_355 l_356 l_357 l_358 l_359 l_360 l_361 l_362 l_363 l_364 l_365 l_366 l_367 l_368 l_369 l_370 l_371 l_372 l_373 l_374 l_375 l_376 l_377 l_378 l_379 l_380 l_381 l_382 l_383 l_384 l_385 l_386 l_387 l_388 l_389 l_390 l_391 : Value) (w' : World) (HP0 : Hid (Kc T w w' [] []))
    : Code.wp Tryd.prog (dropS 6 ((Tryd.f3.body).getD .skip)) (bodyPost Tryd.prog Tryd.f3 (RetV w (.bool true))) ⟨#[.slice a len cap, l_1, l_2, l_3, l_4, l_5, l_6, l_7, l_8, l_9, l_10, l_11, l_12, l_13, l_14, l_15, l_16, l_17, l_18, l_19, l_20, l_21, l_22, l_23, l_24, l_25, l_26, l_27, l_28, l_29, l_30, l_31, l_32, l_33, l_34, l_35, l_36, l_37, l_38, l_39, l_40, l_41, l_42, l_43, l_44, l_45, l_46, l_47, l_48, l_49, l_50, l_51, l_52, l_53, l_54, l_55, l_56, l_57, l_58, l_59, l_60, l_61, l_62, l_63, l_64, l_65, l_66, l_67, l_68, l_69, l_70, l_71, l_72, l_73, l_74, l_75, l_76, l_77, l_78, l_79, l_80, l_81, l_82, l_83, l_84, l_85, l_86, l_87, l_88, l_89, l_90, l_91, l_92, l_93, l_94, l_95, l_96, l_97, l_98, l_99, l_100, l_101, l_102, l_103, l_104, l_105, l_106, l_107, l_108, l_109, l_110, l_111, l_112, l_113, l_114, l_115, l_116, l_117, l_118, l_119, l_120, l_121, l_122, l_123, l_124, l_125, l_126, l_127, l_128, l_129, l_130, l_131, l_132, l_133, l_134, l_135, l_136, l_137, l_138, l_139, l_140, l_141, l_142, l_143, l_144, l_145, l_146, l_147, l_148, l_149, l_150, l_151, l_152, l_153, l_154, l_155, l_156, l_157, l_158, l_159, l_160, l_161, l_162, l_163, l_164, l_165, l_166, l_167, l_168, l_169, l_170, l_171, l_172, l_173, l_174, l_175, l_176, l_177, l_178, l_179, l_180, l_181, l_182, l_183, l_184, l_185, l_186, l_187, l_188, l_189, l_190, l_191, l_192, l_193, l_194, l_195, l_196, l_197, l_198, l_199, l_200, l_201, l_202, l_203, l_204, l_205, l_206, l_207, l_208, l_209, l_210, l_211, l_212, l_213, l_214, l_215, l_216, l_217, l_218, l_219, l_220, l_221, l_222, l_223, l_224, l_225, l_226, l_227, l_228, l_229, l_230, l_231, l_232, l_233, l_234, l_235, l_236, l_237, l_238, l_239, l_240, l_241, l_242, l_243, l_244, l_245, l_246, l_247, l_248, l_249, l_250, l_251, l_252, l_253, l_254, l_255, l_256, l_257, l_258, l_259, l_260, l_261, l_262, l_263, l_264, l_265, l_266, l_267, l_268, l_269, l_270, l_271, l_272, l_273, l_274, l_275, l_276, l_277, l_278, l_279, l_280, l_281, l_282, l_283, l_284, l_285, l_286, l_287, l_288, l_289, l_290, l_291, l_292, l_293, l_294, l_295, l_296, l_297, l_298, l_299, l_300, l_301, l_302, l_303, l_304, l_305, l_306, l_307, l_308, l_309, l_310, l_311, l_312, l_313, l_314, l_315, l_316, l_317, l_318, l_319, l_320, l_321, l_322, l_323, l_324, l_325, l_326, l_327, l_328, l_329, l_330, l_331, l_332, l_333, l_334, l_335, l_336, l_337, l_338, l_339, l_340, l_341, l_342, l_343, l_344, l_345, l_346, l_347, l_348, l_349, l_350, l_351, l_352, l_353, l_354, l_355, l_356, l_357, l_358, l_359, l_360, l_361, l_362, l_363, l_364, l_365, l_366, l_367, l_368, l_369, l_370, l_371, l_372, l_373, l_374, l_375, l_376, l_377, l_378, l_379, l_380, l_381, l_382, l_383, l_384, l_385, l_386, l_387, l_388, l_389, l_390, l_391], []⟩ w' := by
  conv => arg 2; whnf
  have HY := Lib.hid (fun (W : World) (h : Below w.heap.size w W) => bytes_at5 hy h)
  go_wp2_with fail
  refine (capd_got a len cap _ hl (HY.out _ HP0.out.base)).mono ?_
  rintro e p1 ⟨_, n, f, D, dd, y, e, rfl, hy5, he, ⟨Af, cf, rfl, hof, hlf1, hlf2⟩, hoy, hb⟩
  have HP1 := Lib.hid ((((HP0.out.below hb).put hof.read).put hoy.read).box n (.slice Af f.length cf) 26)
  have HC1 := Lib.hid (fun W (h0 : T W) (h1 : Ints W W.heap.size Af f) (h2 : Ints W W.heap.size D y) => iCap.out W n Af f cf D y dd e h0 (Lib.hid h1) (Lib.hid h2) (by omega))
  have HC2 := Lib.hid (fun W (h1 : Ints W W.heap.size Af f) (h2 : Ints W W.heap.size D y) => capS_any n Af f cf D y dd e W (Lib.hid h1) (Lib.hid h2) (by omega))
  have HCB := Lib.hid (fun W E z k (h0 : T W) (h1 : Ints W W.heap.size Af f) (h2 : Ints W W.heap.size E z) (h3 : z.length ≤ 1048576) => iBelow.out W n Af f cf E z k h0 (Lib.hid h1) (Lib.hid h2) h3)
  have HCF := Lib.hid (fun h => cap_facts (n := n) (e := e) (xs := f) (ws := y) h)
  generalize capOf n f y e = kc at *
  obtain ⟨k, one⟩ := kc
  dsimp only at HC1 HC2 HCF
  have q1 : (k != k) = false := by simp
  have q2 : (one != one) = false := by simp
  clear hof hoy hb HP0 he
  obtain ⟨c00, c01⟩ := HP1.out.cell 0 rfl
  go_wp2_with fail
  refine (HC1.out _ HP1.out.fact (HP1.out.list 1 rfl) (HP1.out.list 0 rfl)).mono ?_
  rintro e p2 ⟨rfl, hb⟩
  have HP2 := Lib.hid (HP1.out.below hb)
  clear hb c00 c01 HC1 HP1
  obtain ⟨c00, c01⟩ := HP2.out.cell 0 rfl
  go_wp2_with fail
  refine (HC2.out _ (HP2.out.list 1 rfl) (HP2.out.list 0 rfl)).mono ?_
  rintro e p3 ⟨rfl, hb⟩
  have HP3 := Lib.hid (HP2.out.below hb)
  clear hb c00 c01 HC2 HP2
  obtain ⟨cn, hcn⟩ : ∃ c, (one && decide (k < 2000)) = c := ⟨_, rfl⟩
  have HCN := Lib.hid hcn
  clear hcn
  go_upto_region 13 with (fail)
  go_cut [152] (fun s152 wx => s152 = .bool cn ∧ Kc T w wx [(p1.heap.size, n, .slice Af f.length cf)] [(D, y), (Af, f)])
  case first =>
    as_aux_lemma =>
      cases one
      · go_wp2_with fail
        go_meet
        exact ⟨by rw [← HCN.out]; rfl, HP3.out⟩
      · go_wp2_with fail
        go_meet
        exact ⟨by rw [← HCN.out]; rfl, HP3.out⟩
  case rest =>
    obtain ⟨rfl, hK⟩ := hcut
    have HP4 := Lib.hid hK
    clear hK HP3 q1 q2
    go_upto_if 152 with (fail)
    go_cut [] (fun wx => Kc T w wx [] [])
    case first =>
      as_aux_lemma =>
        have HP3 := HP4
        clear HP4
        generalize wc = p3 at *
        cases cn
        · go_wp2_with fail
          go_meet
          exact HP3.out.only (cs' := []) (ls' := []) [] [] rfl rfl
        obtain ⟨hone, hk⟩ : one = true ∧ k < 2000 := by have h := HCN.out; simpa using h
        obtain ⟨N, E, rfl, rfl, hEN, h5, hyl, hkf⟩ := HCF.out hone
        (try dsimp only at hkf)
        obtain ⟨k0, hb1, hb2, z0, z1⟩ := hkf hk
        obtain ⟨b, off, rfl, -, -⟩ := (HP3.out.list 0 rfl).at_ (k := E) (by rw [hyl]; exact hEN)
        have HCC := Lib.hid (fun (W : World) (hb : Below p3.heap.size p3 W) j (hj : j < y.length) => show W.cell? ⟨b, off + j, none⟩ = some (.int .i64 (y.getD j 0)) from by
          obtain ⟨b', off', e', -, hc⟩ := ((HP3.out.list 0 rfl).below hb).at_ (k := j) hj
          obtain ⟨rfl, rfl⟩ : b = b' ∧ off = off' := by injection e' with e'; injection e' with e1 e2; exact ⟨e1, e2⟩
          exact hc)
        obtain ⟨t, ht⟩ : ∃ t, y.getD E 0 = t := ⟨_, rfl⟩
        rw [ht] at hb1 hb2 z0 z1
        have hgs : (y.set E (t + k)).getD E 0 = t + k := by rw [List.getD_eq_getElem?_getD, List.getElem?_set_self (by omega)]; rfl
        have hss : (y.set E (t + k)).set E (t + k + 1) = y.set E (t + k + 1) := List.set_set ..
        have HCB1 := Lib.hid (fun W V c (h0 : T W) (h1 : Ints W W.heap.size Af f) (h2 : Ints W W.heap.size V (y.set E (t + k))) => HCB.out W V (y.set E (t + k)) c h0 h1 h2 (by rw [List.length_set]; omega))
        have HCB2 := Lib.hid (fun W V c (h0 : T W) (h1 : Ints W W.heap.size Af f) (h2 : Ints W W.heap.size V (y.set E (t + k + 1))) => HCB.out W V (y.set E (t + k + 1)) c h0 h1 h2 (by rw [List.length_set]; omega))
        rw [hb1, List.length_set] at HCB1
        rw [hb2, List.length_set] at HCB2
        have HG := Lib.hid ht
        have HGS := Lib.hid hgs
        have HSS := Lib.hid hss
        have HYL := Lib.hid hyl
        have hw1 : IntKind.i64.wrap (t + k) = t + k := IntWalk.i64_in _ (by omega)
        have hw2 : IntKind.i64.wrap (t + k + 1) = t + k + 1 := IntWalk.i64_in _ (by omega)
        have hE0 : (0 : Int) ≤ (E : Int) := by omega
        have hEl : E < y.length := by omega
        have hEi : (E : Int) < (y.length : Int) := by omega
        have hkn : ¬ k < 0 := by omega
        have hNi : y.length ≤ 1048576 := by omega
        have HS0 := Lib.hid (St.start p3)
        obtain ⟨i0, hi, hz0, hz1, hz2⟩ := info_parts info_int
        clear hkf hb1 hb2 hyl ht HCF HCN hone hgs hss HCB z0 z1 hy5
        go_upto_region 15 with (at_builtin; refine wpList_appN rfl (.tmp 153) (.tmp 154) 24 rfl y Tryd.underlying24 hi hz0 hz1 hz2 HS0.out.empty (i := 0) rfl rfl rfl rfl (HCC.out _ HS0.out.empty.base) (by simp) (by omega) hNi (Nat.zero_add y.length) ?_; intro g5 c5 w5 hS5; have HS5 := Lib.hid hS5; clear hS5)
        rw [List.nil_append] at HS5
        obtain ⟨s1, s2⟩ := HS5.out.cellI (i := 0) rfl hEl
        rw [HG.out] at s1
        go_upto_region 16 with (fail)
        have HS6 := Lib.hid (HS5.out.setI (i := 0) rfl E (t + k))
        generalize w5.setCell ⟨g5, E, none⟩ (.int .i64 (t + k)) = w6 at HS6 ⊢
        have HP6 := Lib.hid (HP3.out.below HS6.out.base)
        clear s1 s2 HS5 HS0
        obtain ⟨c00, c01⟩ := HP6.out.cell 0 rfl
        go_wp2_with fail
        refine (HCB1.out _ _ _ HP6.out.fact (HP6.out.list 1 rfl) (HS6.out.ints (i := 0) rfl)).mono ?_
        rintro e w7 ⟨rfl, hb⟩
        have HS7 := Lib.hid (HS6.out.below hb)
        have HP7 := Lib.hid (HP6.out.below hb)
        clear hb c00 c01 HS6 HP6 HCB1
        obtain ⟨s1, s2⟩ := HS7.out.cellI (i := 0) rfl hEl
        (try rw [HGS.out] at s1)
        go_upto_region 19 with (fail)
        have HS8 := Lib.hid (HS7.out.setI (i := 0) rfl E (t + k + 1))
        generalize w7.setCell ⟨g5, E, none⟩ (.int .i64 (t + k + 1)) = w8 at HS8 ⊢
        rw [HSS.out] at HS8
        have HP8 := Lib.hid (HP3.out.below HS8.out.base)
        clear s1 s2 HS7 HP7
        obtain ⟨c00, c01⟩ := HP8.out.cell 0 rfl
        go_wp2_with fail
        refine (HCB2.out _ _ _ HP8.out.fact (HP8.out.list 1 rfl) (HS8.out.ints (i := 0) rfl)).mono ?_
        rintro e w9 ⟨rfl, hb⟩
        have HP9 := Lib.hid (HP8.out.below hb)
        clear hb c00 c01 HS8 HP8 HCB2
        go_wp2_with fail
        go_meet
        exact HP9.out.only (cs' := []) (ls' := []) [] [] rfl rfl
    case rest =>
      have HQ0 := Lib.hid hcut
      clear hcut HP4 HCB HCF HCN
      refine (show ∀ (a' : Act) (w' : World), Code.wp Tryd.prog (dropS 11 ((Tryd.f3.body).getD .skip)) (bodyPost Tryd.prog Tryd.f3 (RetV w (.bool true))) a' w' → _ from by assumption) _ _ ?_
      exact law_bases_C T stay a len cap w hl hy HT iTight iBelow iBase iLat iCap iExch iCor iRaise iIsD iRank iNeg iVal _ _ _ _ _ _ _ _ _ _ _ _ _ _ _ _ _ _ _ _ _ _ _ _ _ _ _ _ _ _ _ _ _ _ _ _ _ _ _ _ _ _ _ _ _ _ _ _ _ _ _ _ _ _ _ _ _ _ _ _ _ _ _ _ _ _ _ _ _ _ _ _ _ _ _ _ _ _ _ _ _ _ _ _ _ _ _ _ _ _ _ _ _ _ _ _ _ _ _ _ _ _ _ _ _ _ _ _ _ _ _ _ _ _ _ _ _ _ _ _ _ _ _ _ _ _ _ _ _ _ _ _ _ _ _ _ _ _ _ _ _ _ _ _ _ _ _ _ _ _ _ _ _ _ _ _ _ _ _ _ _ _ _ _ _ _ _ _ _ _ _ _ _ _ _ _ _ _ _ _ _ _ _ _ _ _ _ _ _ _ _ _ _ _ _ _ _ _ _ _ _ _ _ _ _ _ _ _ _ _ _ _ _ _ _ _ _ _ _ _ _ _ _ _ _ _ _ _ _ _ _ _ _ _ _ _ _ _ _ _ _ _ _ _ _ _ _ _ _ _ _ _ _ _ _ _ _ _ _ _ _ _ _ _ _ _ _ _ _ _ _ _ _ _ _ _ _ _ _ _ _ _ _ _ _ _ _ _ _ _ _ _ _ _ _ _ _ _ _ _ _ _ _ _ _ _ _ _ _ _ _ _ _ _ _ _ _ _ _ _ _ _ _ _ _ _ _ _ _ _ _ _ _ _ _ _ _ _ _ _ _ _ _ _ _ _ _ _ _ _ _ _ _ _ _ _ _ _ _ _ _ _ _ _ _ _ _ _ _ _ _ _ _ _ _ _ _ _ _ _ _ _ _ _ _ _ _ _ _ _ _ _ HQ0


end Go.Proofs.YtffbiflgmlabaaaDoor.C
