/-
  The law of bases, walked: from the corners to the end.
-/
import Derived.Test.YtffbiflgmlabaaaDoorKc
import Derived.Test.YtffbiflgmlabaaaDoorDuA
import Derived.Test.YtffbiflgmlabaaaDoorDuB
import Derived.Test.YtffbiflgmlabaaaDoorTopH
import Derived.Test.YtffbiflgmlabaaaDoorBsB
import Derived.Test.YtffbiflgmlabaaaDoorBsV
import Derived.Test.YtffbiflgmlabaaaDoorBsA
import Derived.Test.YtffbiflgmlabaaaDoorViolA
import Derived.Test.YtffbiflgmlabaaaDoorSubS
import Derived.Test.YtffbiflgmlabaaaDoorDrC
import Derived.Test.YtffbiflgmlabaaaDoorSameI
import Derived.Test.YtffbiflgmlabaaaDoorLolA
import Derived.Test.YtffbiflgmlabaaaDoorLine
import Derived.StillTailTactics
import Derived.Deep.DeepCutAuto
namespace Go.Proofs.YtffbiflgmlabaaaDoor.C
open Go.RowKit M K
set_option linter.unusedVariables false
set_option linter.unusedSimpArgs false

/-- A body's statements from the k-th on. -/
noncomputable def dropS : Nat → Code → Code
  | 0, c => c
  | k + 1, .seq _ b => dropS k b
  | _ + 1, c => c

set_option maxRecDepth 100000 in
set_option maxHeartbeats 16000000 in
theorem law_bases_D (T : World → Prop) (stay : ∀ W W', T W → Below W.heap.size W W' → T W') (a : Option Addr) (len cap : Nat) (w : World) (hl : len ≤ 1048576) (hy : Hid (Bytes w.heap.size w (.slice a len cap) len)) (HT : Hid (T w))
    (iTight : Hid (∀ (W : World) (n : Int) (A : Option Addr) (xs : List Int) (c : Nat) (D : Option Addr) (ys : List Int) (d : Nat), T W → Hid (Ints W W.heap.size A xs) → Hid (Ints W W.heap.size D ys) → ys.length ≤ 1048576 → Calls Tryd.prog 10 #[.agg #[.int .i64 n, .slice A xs.length c], .slice D ys.length d] W (RetIB W (tightSets n xs ys).1 (tightSets n xs ys).2)))
    (iBelow : Hid (∀ (W : World) (n : Int) (A : Option Addr) (xs : List Int) (c : Nat) (D : Option Addr) (ys : List Int) (d : Nat), T W → Hid (Ints W W.heap.size A xs) → Hid (Ints W W.heap.size D ys) → ys.length ≤ 1048576 → Calls Tryd.prog 13 #[.agg #[.int .i64 n, .slice A xs.length c], .slice D ys.length d] W (RetV W (.bool (isBelow n xs ys)))))
    (iBase : Hid (∀ (W : World) (n : Int) (A : Option Addr) (xs : List Int) (c : Nat) (D : Option Addr) (ys : List Int) (d : Nat), T W → Hid (Ints W W.heap.size A xs) → Hid (Ints W W.heap.size D ys) → ys.length ≤ 1048576 → Calls Tryd.prog 14 #[.agg #[.int .i64 n, .slice A xs.length c], .slice D ys.length d] W (RetV W (.bool (isBase n xs ys)))))
    (iLat : Hid (∀ (W : World) (A : Option Addr) (xs : List Int) (c : Nat), T W → Hid (Ints W W.heap.size A xs) → xs.length ≤ 1048576 → Calls Tryd.prog 18 #[.slice A xs.length c] W (RetV W (.bool (isLat xs)))))
    (iCap : Hid (∀ (W : World) (n : Int) (A : Option Addr) (xs : List Int) (c : Nat) (D : Option Addr) (ys : List Int) (d : Nat) (e : Int), T W → Hid (Ints W W.heap.size A xs) → Hid (Ints W W.heap.size D ys) → ys.length ≤ 1048576 → Calls Tryd.prog 20 #[.agg #[.int .i64 n, .slice A xs.length c], .slice D ys.length d, .int .i64 e] W (RetV W (.tuple #[.int .i64 (capOf n xs ys e).1, .bool (capOf n xs ys e).2]))))
    (iExch : Hid (∀ (W : World) (n : Int) (A : Option Addr) (xs : List Int) (c : Nat) (D : Option Addr) (ys : List Int) (d : Nat) (e h : Int), T W → Hid (Ints W W.heap.size A xs) → Hid (Ints W W.heap.size D ys) → ys.length ≤ 1048576 → Calls Tryd.prog 23 #[.agg #[.int .i64 n, .slice A xs.length c], .slice D ys.length d, .int .i64 e, .int .i64 h] W (RetV W (.tuple #[.int .i64 (exchOf n xs ys e h).1, .bool (exchOf n xs ys e h).2]))))
    (iCor : Hid (∀ (W : World) (n : Int) (A : Option Addr) (xs : List Int) (c : Nat) (D : Option Addr) (ys : List Int) (d : Nat), T W → Hid (Ints W W.heap.size A xs) → Hid (Ints W W.heap.size D ys) → ys.length ≤ 1048576 → Calls Tryd.prog 26 #[.agg #[.int .i64 n, .slice A xs.length c], .slice D ys.length d] W (RetIB W (cornerOf n xs ys).1 (cornerOf n xs ys).2)))
    (iRaise : Hid (∀ (W : World) (n : Int) (A : Option Addr) (xs : List Int) (c : Nat) (D : Option Addr) (ys : List Int) (d : Nat) (E : Option Addr) (ms : List Int) (k : Nat), T W → Hid (Ints W W.heap.size A xs) → Hid (Ints W W.heap.size D ys) → ys.length ≤ 1048576 → Hid (Ints W W.heap.size E ms) → ms.length ≤ 1048576 → Calls Tryd.prog 29 #[.agg #[.int .i64 n, .slice A xs.length c], .slice D ys.length d, .slice E ms.length k] W (RetIB W (raiseVec n xs ys ms).1 (raiseVec n xs ys ms).2)))
    (iIsD : Hid (∀ (W : World) (n : Int) (A : Option Addr) (xs : List Int) (c : Nat) (D : Option Addr) (ys : List Int) (d : Nat), T W → Hid (Ints W W.heap.size A xs) → Hid (Ints W W.heap.size D ys) → ys.length ≤ 1048576 → Calls Tryd.prog 40 #[.agg #[.int .i64 n, .slice A xs.length c], .slice D ys.length d] W (RetV W (.bool (isDual n xs ys)))))
    (iRank : Hid (∀ (W : World) (n : Int) (A : Option Addr) (xs : List Int) (c : Nat) (D : Option Addr) (ys : List Int) (d : Nat), T W → Hid (Ints W W.heap.size A xs) → Hid (Ints W W.heap.size D ys) → ys.length ≤ 1048576 → Calls Tryd.prog 33 #[.agg #[.int .i64 n, .slice A xs.length c], .slice D ys.length d] W (RetV W (.tuple #[.int .i64 (rankVec n xs ys).1, .bool (rankVec n xs ys).2]))))
    (iNeg : Hid (∀ (W : World) (A : Option Addr) (xs : List Int) (c : Nat), T W → Hid (Ints W W.heap.size A xs) → xs.length ≤ 1048576 → Calls Tryd.prog 36 #[.slice A xs.length c] W (RetV W (.tuple #[.int .i64 (negPart xs).1, .bool (negPart xs).2]))))
    (iVal : Hid (∀ (W : World) (n : Int) (A : Option Addr) (xs : List Int) (c : Nat) (s : Int), T W → Hid (Ints W W.heap.size A xs) → Calls Tryd.prog 39 #[.agg #[.int .i64 n, .slice A xs.length c], .int .i64 s] W (RetV W (.int .i64 (valueOf n xs s)))))
    (l_1 l_2 l_3 l_4 l_5 l_6 l_7 l_8 l_9 l_10 l_11 l_12 l_13 l_14 l_15 l_16 l_17 l_18 l_19 l_20 l_21 l_22 l_23 l_24 l_25 l_26 l_27 l_28 l_29 l_30 l_31 l_32 l_33 l_34 l_35 l_36 l_37 l_38 l_39 l_40 l_41 l_42 l_43 l_44 l_45 l_46 l_47 l_48 l_49 l_50 l_51 l_52 l_53 l_54 l_55 l_56 l_57 l_58 l_59 l_60 l_61 l_62 l_63 l_64 l_65 l_66 l_67 l_68 l_69 l_70 l_71 l_72 l_73 l_74 l_75 l_76 l_77 l_78 l_79 l_80 l_81 l_82 l_83 l_84 l_85 l_86 l_87 l_88 l_89 l_90 l_91 l_92 l_93 l_94 l_95 l_96 l_97 l_98 l_99 l_100 l_101 l_102 l_103 l_104 l_105 l_106 l_107 l_108 l_109 l_110 l_111 l_112 l_113 l_114 l_115 l_116 l_117 l_118 l_119 l_120 l_121 l_122 l_123 l_124 l_125 l_126 l_127 l_128 l_129 l_130 l_131 l_132 l_133 l_134 l_135 l_136 l_137 l_138 l_139 l_140 l_141 l_142 l_143 l_144 l_145 l_146 l_147 l_148 l_149 l_150 l_151 l_152 l_153 l_154 l_155 l_156 l_157 l_158 l_159 l_160 l_161 l_162 l_163 l_164 l_165 l_166 l_167 l_168 l_169 l_170 l_171 l_172 l_173 l_174 l_175 l_176 l_177 l_178 l_179 l_180 l_181 l_182 l_183 l_184 l_185 l_186 l_187 l_188 l_189 l_190 l_191 l_192 l_193 l_194 l_195 l_196 l_197 l_198 l_199 l_200 l_201 l_202 l_203 l_204 l_205 l_206 l_207 l_208 l_209 l_210 l_211 l_212 l_213 l_214 l_215 l_216 l_217 l_218 l_219 l_220 l_221 l_222 l_223 l_224 l_225 l_226 l_227 l_228 l_229 l_230 l_231 l_232 l_233 l_234 l_235 l_236 l_237 l_238 l_239 l_240 l_241 l_242 l_243 l_244 l_245 l_246 l_247 l_248 l_249 l_250 l_251 l_252 l_253 l_254 l_255 l_256 l_257 l_258 l_259 l_260 l_261 l_262 l_263 l_264 l_265 l_266 l_267 l_268 l_269 l_270 l_271 l_272 l_273 l_274 l_275 l_276 l_277 l_278 l_279 l_280 l_281 l_282 l_283 l_284 l_285 l_286 l_287 l_288 l_289 l_290 l_291 l_292 l_293 l_294 l_295 l_296 l_297 l_298 l_299 l_300 l_301 l_302 l_303 l_304 l_305 l_306 l_307 l_308 l_309 l_310 l_311 l_312 l_313 l_314 l_315 l_316 l_317 l_318 l_319 l_320 l_321 l_322 l_323 l_324 l_325 l_326 l_327 l_328 l_329 l_330 l_331 l_332 l_333 l_334 l_335 l_336 l_337 l_338 l_339 l_340 l_341 l_342 l_343 l_344 l_345 l_346 l_347 l_348 l_349 l_350 l_351 l_352 l_353 l_354 l_355 l_356 l_357 l_358 l_359 l_360 l_361 l_362 l_363 l_364 l_365 l_366 l_367 l_368 l_369 l_370 l_371 l_372 l_373 l_374 l_375 l_376 l_377 l_378 l_379 l_380 l_381 l_382 l_383 l_384 l_385 l_386 l_387 l_388 l_389 l_390 l_391 : Value) (w' : World) (HR0 : Hid (Kc T w w' [] []))
    : Code.wp Tryd.prog (dropS 16 ((Tryd.f3.body).getD .skip)) (bodyPost Tryd.prog Tryd.f3 (RetV w (.bool true))) ⟨#[.slice a len cap, l_1, l_2, l_3, l_4, l_5, l_6, l_7, l_8, l_9, l_10, l_11, l_12, l_13, l_14, l_15, l_16, l_17, l_18, l_19, l_20, l_21, l_22, l_23, l_24, l_25, l_26, l_27, l_28, l_29, l_30, l_31, l_32, l_33, l_34, l_35, l_36, l_37, l_38, l_39, l_40, l_41, l_42, l_43, l_44, l_45, l_46, l_47, l_48, l_49, l_50, l_51, l_52, l_53, l_54, l_55, l_56, l_57, l_58, l_59, l_60, l_61, l_62, l_63, l_64, l_65, l_66, l_67, l_68, l_69, l_70, l_71, l_72, l_73, l_74, l_75, l_76, l_77, l_78, l_79, l_80, l_81, l_82, l_83, l_84, l_85, l_86, l_87, l_88, l_89, l_90, l_91, l_92, l_93, l_94, l_95, l_96, l_97, l_98, l_99, l_100, l_101, l_102, l_103, l_104, l_105, l_106, l_107, l_108, l_109, l_110, l_111, l_112, l_113, l_114, l_115, l_116, l_117, l_118, l_119, l_120, l_121, l_122, l_123, l_124, l_125, l_126, l_127, l_128, l_129, l_130, l_131, l_132, l_133, l_134, l_135, l_136, l_137, l_138, l_139, l_140, l_141, l_142, l_143, l_144, l_145, l_146, l_147, l_148, l_149, l_150, l_151, l_152, l_153, l_154, l_155, l_156, l_157, l_158, l_159, l_160, l_161, l_162, l_163, l_164, l_165, l_166, l_167, l_168, l_169, l_170, l_171, l_172, l_173, l_174, l_175, l_176, l_177, l_178, l_179, l_180, l_181, l_182, l_183, l_184, l_185, l_186, l_187, l_188, l_189, l_190, l_191, l_192, l_193, l_194, l_195, l_196, l_197, l_198, l_199, l_200, l_201, l_202, l_203, l_204, l_205, l_206, l_207, l_208, l_209, l_210, l_211, l_212, l_213, l_214, l_215, l_216, l_217, l_218, l_219, l_220, l_221, l_222, l_223, l_224, l_225, l_226, l_227, l_228, l_229, l_230, l_231, l_232, l_233, l_234, l_235, l_236, l_237, l_238, l_239, l_240, l_241, l_242, l_243, l_244, l_245, l_246, l_247, l_248, l_249, l_250, l_251, l_252, l_253, l_254, l_255, l_256, l_257, l_258, l_259, l_260, l_261, l_262, l_263, l_264, l_265, l_266, l_267, l_268, l_269, l_270, l_271, l_272, l_273, l_274, l_275, l_276, l_277, l_278, l_279, l_280, l_281, l_282, l_283, l_284, l_285, l_286, l_287, l_288, l_289, l_290, l_291, l_292, l_293, l_294, l_295, l_296, l_297, l_298, l_299, l_300, l_301, l_302, l_303, l_304, l_305, l_306, l_307, l_308, l_309, l_310, l_311, l_312, l_313, l_314, l_315, l_316, l_317, l_318, l_319, l_320, l_321, l_322, l_323, l_324, l_325, l_326, l_327, l_328, l_329, l_330, l_331, l_332, l_333, l_334, l_335, l_336, l_337, l_338, l_339, l_340, l_341, l_342, l_343, l_344, l_345, l_346, l_347, l_348, l_349, l_350, l_351, l_352, l_353, l_354, l_355, l_356, l_357, l_358, l_359, l_360, l_361, l_362, l_363, l_364, l_365, l_366, l_367, l_368, l_369, l_370, l_371, l_372, l_373, l_374, l_375, l_376, l_377, l_378, l_379, l_380, l_381, l_382, l_383, l_384, l_385, l_386, l_387, l_388, l_389, l_390, l_391], []⟩ w' := by
  conv => arg 2; whnf
  have HY := Lib.hid (fun (W : World) (h : Below w.heap.size w W) => bytes_at5 hy h)
  go_wp2_with fail
  refine (cornd_got _ len _ hl (HY.out _ HR0.out.base)).mono ?_
  rintro e t1 ⟨_, n, f, D, dd, p, rfl, hp5, -, ⟨Af, cf, rfl, hof, hlf1, hlf2⟩, hop, hb⟩
  have HR1 := Lib.hid ((((HR0.out.below hb).put hof.read).put hop.read).box n (.slice Af f.length cf) 26)
  have HC1 := Lib.hid (fun W (h0 : T W) (h1 : Ints W W.heap.size Af f) (h2 : Ints W W.heap.size D p) => iCor.out W n Af f cf D p dd h0 (Lib.hid h1) (Lib.hid h2) (by omega))
  have HC2 := Lib.hid (fun W (h1 : Ints W W.heap.size Af f) (h2 : Ints W W.heap.size D p) => cornerS_any n Af f cf D p dd W (Lib.hid h1) (Lib.hid h2) (by omega))
  have HVA := Lib.hid (fun W s (h0 : T W) (h1 : Ints W W.heap.size Af f) => iVal.out W n Af f cf s h0 (Lib.hid h1))
  have HCF := Lib.hid (fun h => corner_facts (n := n) (xs := f) (p := p) h)
  have hcl := corner_le5 (n := n) (xs := f) (p := p)
  generalize cornerOf n f p = kc at *
  obtain ⟨r, five⟩ := kc
  dsimp only at HC1 HC2 HCF hcl
  have HRL := Lib.hid hcl
  clear hof hop hb HR0 hcl iCor
  obtain ⟨c00, c01⟩ := HR1.out.cell 0 rfl
  go_wp2_with fail
  refine (HC1.out _ HR1.out.fact (HR1.out.list 1 rfl) (HR1.out.list 0 rfl)).mono ?_
  rintro e t2 ⟨V1, k1, rfl, ho, hb⟩
  have HR2 := Lib.hid ((HR1.out.below hb).put ho.read)
  clear ho hb c00 c01 HC1 HR1
  obtain ⟨c00, c01⟩ := HR2.out.cell 0 rfl
  go_wp2_with fail
  refine (HC2.out _ (HR2.out.list 2 rfl) (HR2.out.list 1 rfl)).mono ?_
  rintro e t3 ⟨V2, k2, rfl, ho, hb⟩
  have HR3 := Lib.hid (((HR2.out.below hb).put ho.read).only (cs' := [(t1.heap.size, n, .slice Af f.length cf)]) (ls' := [(V2, r), (V1, r), (Af, f)]) [0] [0, 1, 3] rfl rfl)
  clear ho hb c00 c01 HC2 HR2 hp5 hlf1 hlf2
  go_wp2_with fail
  refine (raised_got _ len _ hl (HY.out _ HR3.out.base)).mono ?_
  rintro e t4 ⟨_, n2, f2, D2, d2, us, D3, d3, ws, rfl, hu5, hwl, ⟨Ag, cg, rfl, hog, hlg1, hlg2⟩, hou, how, hb⟩
  have HR4 := Lib.hid (((((HR3.out.below hb).put hog.read).put how.read).put hou.read).box n2 (.slice Ag f2.length cg) 26)
  have HC1 := Lib.hid (fun W (h0 : T W) (h1 : Ints W W.heap.size Ag f2) (h2 : Ints W W.heap.size D2 us) (h3 : Ints W W.heap.size D3 ws) => iRaise.out W n2 Ag f2 cg D2 us d2 D3 ws d3 h0 (Lib.hid h1) (Lib.hid h2) (by omega) (Lib.hid h3) (by omega))
  have HC2 := Lib.hid (fun W (h1 : Ints W W.heap.size Ag f2) (h2 : Ints W W.heap.size D2 us) (h3 : Ints W W.heap.size D3 ws) => raiseS_any n2 Ag f2 cg D2 us d2 D3 ws d3 W (Lib.hid h1) (Lib.hid h2) (Lib.hid h3) (by omega) (by omega))
  have HRF := Lib.hid (fun h => raise_facts (n := n2) (xs := f2) (ws := us) (ms := ws) h)
  have hrl := raise_le5 (n := n2) (xs := f2) (ws := us) (ms := ws) hu5
  have HBL := Lib.hid (fun W E z k (h0 : T W) (h1 : Ints W W.heap.size Ag f2) (h2 : Ints W W.heap.size E z) (h3 : z.length ≤ 1048576) => iBelow.out W n2 Ag f2 cg E z k h0 (Lib.hid h1) (Lib.hid h2) h3)
  generalize raiseVec n2 f2 us ws = kr at *
  obtain ⟨o, seven⟩ := kr
  dsimp only at HC1 HC2 HRF hrl
  have HOL := Lib.hid hrl
  clear hog hou how hb HR3 hrl hwl iRaise
  obtain ⟨c00, c01⟩ := HR4.out.cell 0 rfl
  go_wp2_with fail
  refine (HC1.out _ HR4.out.fact (HR4.out.list 2 rfl) (HR4.out.list 0 rfl) (HR4.out.list 1 rfl)).mono ?_
  rintro e t5 ⟨V3, k3, rfl, ho, hb⟩
  have HR5 := Lib.hid ((HR4.out.below hb).put ho.read)
  clear ho hb c00 c01 HC1 HR4
  obtain ⟨c00, c01⟩ := HR5.out.cell 0 rfl
  go_wp2_with fail
  refine (HC2.out _ (HR5.out.list 3 rfl) (HR5.out.list 1 rfl) (HR5.out.list 2 rfl)).mono ?_
  rintro e t6 ⟨V4, k4, rfl, ho, hb⟩
  have HR6 := Lib.hid (((HR5.out.below hb).put ho.read).only (cs' := [(t4.heap.size, n2, .slice Ag f2.length cg), (t1.heap.size, n, .slice Af f.length cf)]) (ls' := [(V4, o), (V3, o), (Ag, f2), (V2, r), (V1, r), (Af, f)]) [0, 1] [0, 1, 4, 5, 6, 7] rfl rfl)
  clear ho hb c00 c01 HC2 HR5 hu5 hlg1 hlg2
  go_wp2_with fail
  refine (isdd_got a len cap _ hl (HY.out _ HR6.out.base)).mono ?_
  rintro e t7 ⟨_, n3, f3, D5, d5, y, rfl, hy5, -, ⟨Ah, ch, rfl, hoh, hlh1, hlh2⟩, hoy, hb⟩
  have HR7 := Lib.hid ((((HR6.out.below hb).put hoh.read).put hoy.read).box n3 (.slice Ah f3.length ch) 26)
  have HI1 := Lib.hid (fun W (h0 : T W) (h1 : Ints W W.heap.size Ah f3) (h2 : Ints W W.heap.size D5 y) => iIsD.out W n3 Ah f3 ch D5 y d5 h0 (Lib.hid h1) (Lib.hid h2) (by omega))
  have HI2 := Lib.hid (fun W (h1 : Ints W W.heap.size Ah f3) (h2 : Ints W W.heap.size D5 y) => isDualS_any n3 Ah f3 ch D5 y d5 W (Lib.hid h1) (Lib.hid h2) (by omega))
  generalize isDual n3 f3 y = dv at HI1 HI2
  clear hoh hoy hb HR6 hy5 hlh1 hlh2 iIsD
  go_wp2_with fail
  refine (rankd_got _ len _ hl (HY.out _ HR7.out.base)).mono ?_
  rintro e t8 ⟨_, n4, f4, D6, d6, z, rfl, hz5, -, ⟨Ak, ck, rfl, hok, hlk1, hlk2⟩, hoz, hb⟩
  have HR8 := Lib.hid ((((HR7.out.below hb).put hok.read).put hoz.read).box n4 (.slice Ak f4.length ck) 26)
  have HC1 := Lib.hid (fun W (h0 : T W) (h1 : Ints W W.heap.size Ak f4) (h2 : Ints W W.heap.size D6 z) => iRank.out W n4 Ak f4 ck D6 z d6 h0 (Lib.hid h1) (Lib.hid h2) (by omega))
  have HC2 := Lib.hid (fun W (h1 : Ints W W.heap.size Ak f4) (h2 : Ints W W.heap.size D6 z) => rankS_any n4 Ak f4 ck D6 z d6 W (Lib.hid h1) (Lib.hid h2) (by omega))
  generalize rankVec n4 f4 z = rv at HC1 HC2
  obtain ⟨rk, rok⟩ := rv
  dsimp only at HC1 HC2
  clear hok hoz hb HR7 hz5 hlk1 hlk2 iRank
  obtain ⟨c00, c01⟩ := HR8.out.cell 0 rfl
  go_wp2_with fail
  refine (HC1.out _ HR8.out.fact (HR8.out.list 1 rfl) (HR8.out.list 0 rfl)).mono ?_
  rintro e t9 ⟨rfl, hb⟩
  have HR9 := Lib.hid (HR8.out.below hb)
  clear hb c00 c01 HC1 HR8
  obtain ⟨c00, c01⟩ := HR9.out.cell 0 rfl
  go_wp2_with fail
  refine (HC2.out _ (HR9.out.list 1 rfl) (HR9.out.list 0 rfl)).mono ?_
  rintro e t10 ⟨rfl, hb⟩
  have HR10 := Lib.hid ((HR9.out.below hb).only (cs' := [(t7.heap.size, n3, .slice Ah f3.length ch), (t4.heap.size, n2, .slice Ag f2.length cg), (t1.heap.size, n, .slice Af f.length cf)]) (ls' := [(D5, y), (Ah, f3), (V4, o), (V3, o), (Ag, f2), (V2, r), (V1, r), (Af, f)]) [1, 2, 3] [2, 3, 4, 5, 6, 7, 8, 9] rfl rfl)
  clear hb c00 c01 HC2 HR9
  go_wp2_with fail
  refine (negd_got _ len _ hl (HY.out _ HR10.out.base)).mono ?_
  rintro e t11 ⟨D7, d7, xs, rfl, hx6, hox, hb⟩
  have HR11 := Lib.hid ((HR10.out.below hb).put hox.read)
  have HC1 := Lib.hid (fun W (h0 : T W) (h1 : Ints W W.heap.size D7 xs) => iNeg.out W D7 xs d7 h0 (Lib.hid h1) (by omega))
  have HC2 := Lib.hid (fun W (h1 : Ints W W.heap.size D7 xs) => negS_any D7 xs d7 W (Lib.hid h1) (by omega))
  generalize negPart xs = nv at HC1 HC2
  obtain ⟨ng, nok⟩ := nv
  dsimp only at HC1 HC2
  clear hox hb HR10 hx6 iNeg
  go_wp2_with fail
  refine (HC1.out _ HR11.out.fact (HR11.out.list 0 rfl)).mono ?_
  rintro e t12 ⟨rfl, hb⟩
  have HR12 := Lib.hid (HR11.out.below hb)
  clear hb HC1 HR11
  go_wp2_with fail
  refine (HC2.out _ (HR12.out.list 0 rfl)).mono ?_
  rintro e t13 ⟨rfl, hb⟩
  have HR13 := Lib.hid ((HR12.out.below hb).only (cs' := [(t7.heap.size, n3, .slice Ah f3.length ch), (t4.heap.size, n2, .slice Ag f2.length cg), (t1.heap.size, n, .slice Af f.length cf)]) (ls' := [(D5, y), (Ah, f3), (V4, o), (V3, o), (Ag, f2), (V2, r), (V1, r), (Af, f)]) [0, 1, 2] [1, 2, 3, 4, 5, 6, 7, 8] rfl rfl)
  clear hb HC2 HR12
  have p1 : (five == five) = true := by simp
  have p2 : (seven == seven) = true := by simp
  have p3 : (dv == dv) = true := by simp
  have p4 : (rk == rk) = true := by simp
  have p5 : (rok == rok) = true := by simp
  have p6 : (ng == ng) = true := by simp
  have p7 : (nok == nok) = true := by simp
  have HTO := Lib.hid (fun W E k (h1 : Ints W W.heap.size E r) hv => total_any E r k W (Lib.hid h1) (by have := HRL.out; omega) hv)
  go_wp2
  cases seven
  · clear HRF HBL
    cases five
    · clear HCF HVA HTO
      as_aux_lemma =>
        refine wp_region_line (S := (fun W => Kc T w W [(t7.heap.size, n3, .slice Ah f3.length ch), (t4.heap.size, n2, .slice Ag f2.length cg), (t1.heap.size, n, .slice Af f.length cf)] [(D5, y), (Ah, f3), (V4, o), (V3, o), (Ag, f2), (V2, r), (V1, r), (Af, f)])) (by kernel_rfl) (by kernel_rfl) ?_ ?_
        · exact HR13.out.drew
        refine line_take (i := 0) (v := ?_) (by simp only [List.getElem?_toArray, List.getElem?_cons_succ, List.getElem?_cons_zero]; rfl) (by kernel_rfl) (by kernel_rfl) (by rfl) ?_ ?_
        rotate_left
        · intro wy hSw; (try dsimp only at hSw); obtain ⟨b0, b1⟩ := hSw.cell 0 rfl; obtain ⟨b2, b3⟩ := hSw.cell 1 rfl; obtain ⟨b4, b5⟩ := hSw.cell 2 rfl; go_simp; (try with_reducible rfl)
        try simp only [Act.put, List.setIfInBounds_toArray, List.set_cons_zero, List.set_cons_succ]
        refine line_take (i := 1) (v := ?_) (by simp only [List.getElem?_toArray, List.getElem?_cons_succ, List.getElem?_cons_zero]; rfl) (by kernel_rfl) (by kernel_rfl) (by rfl) ?_ ?_
        rotate_left
        · intro wy hSw; (try dsimp only at hSw); obtain ⟨b0, b1⟩ := hSw.cell 0 rfl; obtain ⟨b2, b3⟩ := hSw.cell 1 rfl; obtain ⟨b4, b5⟩ := hSw.cell 2 rfl; go_simp; (try with_reducible rfl)
        try simp only [Act.put, List.setIfInBounds_toArray, List.set_cons_zero, List.set_cons_succ]
        refine line_take (i := 2) (v := ?_) (by simp only [List.getElem?_toArray, List.getElem?_cons_succ, List.getElem?_cons_zero]; rfl) (by kernel_rfl) (by kernel_rfl) (by rfl) ?_ ?_
        rotate_left
        · intro wy hSw; (try dsimp only at hSw); obtain ⟨b0, b1⟩ := hSw.cell 0 rfl; obtain ⟨b2, b3⟩ := hSw.cell 1 rfl; obtain ⟨b4, b5⟩ := hSw.cell 2 rfl; go_simp; (try with_reducible rfl)
        try simp only [Act.put, List.setIfInBounds_toArray, List.set_cons_zero, List.set_cons_succ]
        refine line_take (i := 3) (v := ?_) (by simp only [List.getElem?_toArray, List.getElem?_cons_succ, List.getElem?_cons_zero]; rfl) (by kernel_rfl) (by kernel_rfl) (by rfl) ?_ ?_
        rotate_left
        · intro wy hSw; (try dsimp only at hSw); obtain ⟨b0, b1⟩ := hSw.cell 0 rfl; obtain ⟨b2, b3⟩ := hSw.cell 1 rfl; obtain ⟨b4, b5⟩ := hSw.cell 2 rfl; go_simp; (try with_reducible rfl)
        try simp only [Act.put, List.setIfInBounds_toArray, List.set_cons_zero, List.set_cons_succ]
        refine line_take (i := 4) (v := ?_) (by simp only [List.getElem?_toArray, List.getElem?_cons_succ, List.getElem?_cons_zero]; rfl) (by kernel_rfl) (by kernel_rfl) (by rfl) ?_ ?_
        rotate_left
        · intro wy hSw; (try dsimp only at hSw); obtain ⟨b0, b1⟩ := hSw.cell 0 rfl; obtain ⟨b2, b3⟩ := hSw.cell 1 rfl; obtain ⟨b4, b5⟩ := hSw.cell 2 rfl; go_simp; (try with_reducible rfl)
        try simp only [Act.put, List.setIfInBounds_toArray, List.set_cons_zero, List.set_cons_succ]
        refine line_take (i := 5) (v := ?_) (by simp only [List.getElem?_toArray, List.getElem?_cons_succ, List.getElem?_cons_zero]; rfl) (by kernel_rfl) (by kernel_rfl) (by rfl) ?_ ?_
        rotate_left
        · intro wy hSw; (try dsimp only at hSw); obtain ⟨b0, b1⟩ := hSw.cell 0 rfl; obtain ⟨b2, b3⟩ := hSw.cell 1 rfl; obtain ⟨b4, b5⟩ := hSw.cell 2 rfl; go_simp; (try with_reducible rfl)
        try simp only [Act.put, List.setIfInBounds_toArray, List.set_cons_zero, List.set_cons_succ]
        refine line_call (i := 6) (v := ?_) ?_ ?_ (by simp only [List.getElem?_toArray, List.getElem?_cons_succ, List.getElem?_cons_zero]; rfl) (by kernel_rfl) (by kernel_rfl) (by rfl) ?hc20 ?hv20 ?hn20
        case hv20 => intro wy hSw; go_simp; (try first | with_reducible rfl | (constructor <;> with_reducible rfl))
        case hc20 => intro wy hSw; (try dsimp only at hSw); refine Calls.mono (by with_reducible exact (sameInts_same V1 V2 r k1 k2 _ (Lib.hid (hSw.list 6 rfl)) (Lib.hid (hSw.list 5 rfl)) (by have := HRL.out; omega))) ?_; rintro e9 wq ⟨rfl, q9, rfl⟩; refine ⟨?_, hSw.drewN q9⟩; with_reducible rfl
        try simp only [Act.put, List.setIfInBounds_toArray, List.set_cons_zero, List.set_cons_succ]
        refine line_take (i := 7) (v := ?_) (by simp only [List.getElem?_toArray, List.getElem?_cons_succ, List.getElem?_cons_zero]; rfl) (by kernel_rfl) (by kernel_rfl) (by rfl) ?_ ?_
        rotate_left
        · intro wy hSw; (try dsimp only at hSw); obtain ⟨b0, b1⟩ := hSw.cell 0 rfl; obtain ⟨b2, b3⟩ := hSw.cell 1 rfl; obtain ⟨b4, b5⟩ := hSw.cell 2 rfl; go_simp; (try with_reducible rfl)
        try simp only [Act.put, List.setIfInBounds_toArray, List.set_cons_zero, List.set_cons_succ]
        refine line_take (i := 8) (v := ?_) (by simp only [List.getElem?_toArray, List.getElem?_cons_succ, List.getElem?_cons_zero]; rfl) (by kernel_rfl) (by kernel_rfl) (by rfl) ?_ ?_
        rotate_left
        · intro wy hSw; (try dsimp only at hSw); obtain ⟨b0, b1⟩ := hSw.cell 0 rfl; obtain ⟨b2, b3⟩ := hSw.cell 1 rfl; obtain ⟨b4, b5⟩ := hSw.cell 2 rfl; go_simp; (try with_reducible rfl)
        try simp only [Act.put, List.setIfInBounds_toArray, List.set_cons_zero, List.set_cons_succ]
        refine line_take (i := 9) (v := ?_) (by simp only [List.getElem?_toArray, List.getElem?_cons_succ, List.getElem?_cons_zero]; rfl) (by kernel_rfl) (by kernel_rfl) (by rfl) ?_ ?_
        rotate_left
        · intro wy hSw; (try dsimp only at hSw); obtain ⟨b0, b1⟩ := hSw.cell 0 rfl; obtain ⟨b2, b3⟩ := hSw.cell 1 rfl; obtain ⟨b4, b5⟩ := hSw.cell 2 rfl; go_simp; (try with_reducible rfl)
        try simp only [Act.put, List.setIfInBounds_toArray, List.set_cons_zero, List.set_cons_succ]
        refine line_take (i := 10) (v := ?_) (by simp only [List.getElem?_toArray, List.getElem?_cons_succ, List.getElem?_cons_zero]; rfl) (by kernel_rfl) (by kernel_rfl) (by rfl) ?_ ?_
        rotate_left
        · intro wy hSw; (try dsimp only at hSw); obtain ⟨b0, b1⟩ := hSw.cell 0 rfl; obtain ⟨b2, b3⟩ := hSw.cell 1 rfl; obtain ⟨b4, b5⟩ := hSw.cell 2 rfl; go_simp; (try with_reducible rfl)
        try simp only [Act.put, List.setIfInBounds_toArray, List.set_cons_zero, List.set_cons_succ]
        refine line_take (i := 11) (v := ?_) (by simp only [List.getElem?_toArray, List.getElem?_cons_succ, List.getElem?_cons_zero]; rfl) (by kernel_rfl) (by kernel_rfl) (by rfl) ?_ ?_
        rotate_left
        · intro wy hSw; (try dsimp only at hSw); obtain ⟨b0, b1⟩ := hSw.cell 0 rfl; obtain ⟨b2, b3⟩ := hSw.cell 1 rfl; obtain ⟨b4, b5⟩ := hSw.cell 2 rfl; go_simp; (try with_reducible rfl)
        try simp only [Act.put, List.setIfInBounds_toArray, List.set_cons_zero, List.set_cons_succ]
        refine line_skip (i := 12) (by simp only [List.getElem?_toArray, List.getElem?_cons_succ, List.getElem?_cons_zero]; rfl) (by kernel_rfl) (by kernel_rfl) (by rfl) ?_
        try simp only [Act.put, List.setIfInBounds_toArray, List.set_cons_zero, List.set_cons_succ]
        refine line_skip (i := 13) (by simp only [List.getElem?_toArray, List.getElem?_cons_succ, List.getElem?_cons_zero]; rfl) (by kernel_rfl) (by kernel_rfl) (by rfl) ?_
        try simp only [Act.put, List.setIfInBounds_toArray, List.set_cons_zero, List.set_cons_succ]
        refine line_skip (i := 14) (by simp only [List.getElem?_toArray, List.getElem?_cons_succ, List.getElem?_cons_zero]; rfl) (by kernel_rfl) (by kernel_rfl) (by rfl) ?_
        try simp only [Act.put, List.setIfInBounds_toArray, List.set_cons_zero, List.set_cons_succ]
        refine line_skip (i := 15) (by simp only [List.getElem?_toArray, List.getElem?_cons_succ, List.getElem?_cons_zero]; rfl) (by kernel_rfl) (by kernel_rfl) (by rfl) ?_
        try simp only [Act.put, List.setIfInBounds_toArray, List.set_cons_zero, List.set_cons_succ]
        refine line_skip (i := 16) (by simp only [List.getElem?_toArray, List.getElem?_cons_succ, List.getElem?_cons_zero]; rfl) (by kernel_rfl) (by kernel_rfl) (by rfl) ?_
        try simp only [Act.put, List.setIfInBounds_toArray, List.set_cons_zero, List.set_cons_succ]
        refine line_skip (i := 17) (by simp only [List.getElem?_toArray, List.getElem?_cons_succ, List.getElem?_cons_zero]; rfl) (by kernel_rfl) (by kernel_rfl) (by rfl) ?_
        try simp only [Act.put, List.setIfInBounds_toArray, List.set_cons_zero, List.set_cons_succ]
        refine line_skip (i := 18) (by simp only [List.getElem?_toArray, List.getElem?_cons_succ, List.getElem?_cons_zero]; rfl) (by kernel_rfl) (by kernel_rfl) (by rfl) ?_
        try simp only [Act.put, List.setIfInBounds_toArray, List.set_cons_zero, List.set_cons_succ]
        refine line_skip (i := 19) (by simp only [List.getElem?_toArray, List.getElem?_cons_succ, List.getElem?_cons_zero]; rfl) (by kernel_rfl) (by kernel_rfl) (by rfl) ?_
        try simp only [Act.put, List.setIfInBounds_toArray, List.set_cons_zero, List.set_cons_succ]
        refine line_skip (i := 20) (by simp only [List.getElem?_toArray, List.getElem?_cons_succ, List.getElem?_cons_zero]; rfl) (by kernel_rfl) (by kernel_rfl) (by rfl) ?_
        try simp only [Act.put, List.setIfInBounds_toArray, List.set_cons_zero, List.set_cons_succ]
        refine line_take (i := 21) (v := ?_) (by simp only [List.getElem?_toArray, List.getElem?_cons_succ, List.getElem?_cons_zero]; rfl) (by kernel_rfl) (by kernel_rfl) (by rfl) ?_ ?_
        rotate_left
        · intro wy hSw; (try dsimp only at hSw); obtain ⟨b0, b1⟩ := hSw.cell 0 rfl; obtain ⟨b2, b3⟩ := hSw.cell 1 rfl; obtain ⟨b4, b5⟩ := hSw.cell 2 rfl; go_simp; (try with_reducible rfl)
        try simp only [Act.put, List.setIfInBounds_toArray, List.set_cons_zero, List.set_cons_succ]
        refine line_take (i := 22) (v := ?_) (by simp only [List.getElem?_toArray, List.getElem?_cons_succ, List.getElem?_cons_zero]; rfl) (by kernel_rfl) (by kernel_rfl) (by rfl) ?_ ?_
        rotate_left
        · intro wy hSw; (try dsimp only at hSw); obtain ⟨b0, b1⟩ := hSw.cell 0 rfl; obtain ⟨b2, b3⟩ := hSw.cell 1 rfl; obtain ⟨b4, b5⟩ := hSw.cell 2 rfl; go_simp; (try with_reducible rfl)
        try simp only [Act.put, List.setIfInBounds_toArray, List.set_cons_zero, List.set_cons_succ]
        refine line_take (i := 23) (v := ?_) (by simp only [List.getElem?_toArray, List.getElem?_cons_succ, List.getElem?_cons_zero]; rfl) (by kernel_rfl) (by kernel_rfl) (by rfl) ?_ ?_
        rotate_left
        · intro wy hSw; (try dsimp only at hSw); obtain ⟨b0, b1⟩ := hSw.cell 0 rfl; obtain ⟨b2, b3⟩ := hSw.cell 1 rfl; obtain ⟨b4, b5⟩ := hSw.cell 2 rfl; go_simp; (try with_reducible rfl)
        try simp only [Act.put, List.setIfInBounds_toArray, List.set_cons_zero, List.set_cons_succ]
        refine line_take (i := 24) (v := ?_) (by simp only [List.getElem?_toArray, List.getElem?_cons_succ, List.getElem?_cons_zero]; rfl) (by kernel_rfl) (by kernel_rfl) (by rfl) ?_ ?_
        rotate_left
        · intro wy hSw; (try dsimp only at hSw); obtain ⟨b0, b1⟩ := hSw.cell 0 rfl; obtain ⟨b2, b3⟩ := hSw.cell 1 rfl; obtain ⟨b4, b5⟩ := hSw.cell 2 rfl; go_simp; (try with_reducible rfl)
        try simp only [Act.put, List.setIfInBounds_toArray, List.set_cons_zero, List.set_cons_succ]
        refine line_take (i := 25) (v := ?_) (by simp only [List.getElem?_toArray, List.getElem?_cons_succ, List.getElem?_cons_zero]; rfl) (by kernel_rfl) (by kernel_rfl) (by rfl) ?_ ?_
        rotate_left
        · intro wy hSw; (try dsimp only at hSw); obtain ⟨b0, b1⟩ := hSw.cell 0 rfl; obtain ⟨b2, b3⟩ := hSw.cell 1 rfl; obtain ⟨b4, b5⟩ := hSw.cell 2 rfl; go_simp; (try with_reducible rfl)
        try simp only [Act.put, List.setIfInBounds_toArray, List.set_cons_zero, List.set_cons_succ]
        refine line_take (i := 26) (v := ?_) (by simp only [List.getElem?_toArray, List.getElem?_cons_succ, List.getElem?_cons_zero]; rfl) (by kernel_rfl) (by kernel_rfl) (by rfl) ?_ ?_
        rotate_left
        · intro wy hSw; (try dsimp only at hSw); obtain ⟨b0, b1⟩ := hSw.cell 0 rfl; obtain ⟨b2, b3⟩ := hSw.cell 1 rfl; obtain ⟨b4, b5⟩ := hSw.cell 2 rfl; go_simp; (try with_reducible rfl)
        try simp only [Act.put, List.setIfInBounds_toArray, List.set_cons_zero, List.set_cons_succ]
        refine line_take (i := 27) (v := ?_) (by simp only [List.getElem?_toArray, List.getElem?_cons_succ, List.getElem?_cons_zero]; rfl) (by kernel_rfl) (by kernel_rfl) (by rfl) ?_ ?_
        rotate_left
        · intro wy hSw; (try dsimp only at hSw); obtain ⟨b0, b1⟩ := hSw.cell 0 rfl; obtain ⟨b2, b3⟩ := hSw.cell 1 rfl; obtain ⟨b4, b5⟩ := hSw.cell 2 rfl; go_simp; (try with_reducible rfl)
        try simp only [Act.put, List.setIfInBounds_toArray, List.set_cons_zero, List.set_cons_succ]
        refine line_take (i := 28) (v := ?_) (by simp only [List.getElem?_toArray, List.getElem?_cons_succ, List.getElem?_cons_zero]; rfl) (by kernel_rfl) (by kernel_rfl) (by rfl) ?_ ?_
        rotate_left
        · intro wy hSw; (try dsimp only at hSw); obtain ⟨b0, b1⟩ := hSw.cell 0 rfl; obtain ⟨b2, b3⟩ := hSw.cell 1 rfl; obtain ⟨b4, b5⟩ := hSw.cell 2 rfl; go_simp; (try with_reducible rfl)
        try simp only [Act.put, List.setIfInBounds_toArray, List.set_cons_zero, List.set_cons_succ]
        refine line_take (i := 29) (v := ?_) (by simp only [List.getElem?_toArray, List.getElem?_cons_succ, List.getElem?_cons_zero]; rfl) (by kernel_rfl) (by kernel_rfl) (by rfl) ?_ ?_
        rotate_left
        · intro wy hSw; (try dsimp only at hSw); obtain ⟨b0, b1⟩ := hSw.cell 0 rfl; obtain ⟨b2, b3⟩ := hSw.cell 1 rfl; obtain ⟨b4, b5⟩ := hSw.cell 2 rfl; go_simp; (try with_reducible rfl)
        try simp only [Act.put, List.setIfInBounds_toArray, List.set_cons_zero, List.set_cons_succ]
        refine line_take (i := 30) (v := ?_) (by simp only [List.getElem?_toArray, List.getElem?_cons_succ, List.getElem?_cons_zero]; rfl) (by kernel_rfl) (by kernel_rfl) (by rfl) ?_ ?_
        rotate_left
        · intro wy hSw; (try dsimp only at hSw); obtain ⟨b0, b1⟩ := hSw.cell 0 rfl; obtain ⟨b2, b3⟩ := hSw.cell 1 rfl; obtain ⟨b4, b5⟩ := hSw.cell 2 rfl; go_simp; (try with_reducible rfl)
        try simp only [Act.put, List.setIfInBounds_toArray, List.set_cons_zero, List.set_cons_succ]
        refine line_call (i := 31) (v := ?_) ?_ ?_ (by simp only [List.getElem?_toArray, List.getElem?_cons_succ, List.getElem?_cons_zero]; rfl) (by kernel_rfl) (by kernel_rfl) (by rfl) ?hc21 ?hv21 ?hn21
        case hv21 => intro wy hSw; go_simp; (try first | with_reducible rfl | (constructor <;> with_reducible rfl))
        case hc21 => intro wy hSw; (try dsimp only at hSw); refine Calls.mono (by with_reducible exact (sameInts_same V3 V4 o k3 k4 _ (Lib.hid (hSw.list 3 rfl)) (Lib.hid (hSw.list 2 rfl)) (by have := HOL.out; omega))) ?_; rintro e9 wq ⟨rfl, q9, rfl⟩; refine ⟨?_, hSw.drewN q9⟩; with_reducible rfl
        try simp only [Act.put, List.setIfInBounds_toArray, List.set_cons_zero, List.set_cons_succ]
        refine line_take (i := 32) (v := ?_) (by simp only [List.getElem?_toArray, List.getElem?_cons_succ, List.getElem?_cons_zero]; rfl) (by kernel_rfl) (by kernel_rfl) (by rfl) ?_ ?_
        rotate_left
        · intro wy hSw; (try dsimp only at hSw); obtain ⟨b0, b1⟩ := hSw.cell 0 rfl; obtain ⟨b2, b3⟩ := hSw.cell 1 rfl; obtain ⟨b4, b5⟩ := hSw.cell 2 rfl; go_simp; (try with_reducible rfl)
        try simp only [Act.put, List.setIfInBounds_toArray, List.set_cons_zero, List.set_cons_succ]
        refine line_take (i := 33) (v := ?_) (by simp only [List.getElem?_toArray, List.getElem?_cons_succ, List.getElem?_cons_zero]; rfl) (by kernel_rfl) (by kernel_rfl) (by rfl) ?_ ?_
        rotate_left
        · intro wy hSw; (try dsimp only at hSw); obtain ⟨b0, b1⟩ := hSw.cell 0 rfl; obtain ⟨b2, b3⟩ := hSw.cell 1 rfl; obtain ⟨b4, b5⟩ := hSw.cell 2 rfl; go_simp; (try with_reducible rfl)
        try simp only [Act.put, List.setIfInBounds_toArray, List.set_cons_zero, List.set_cons_succ]
        refine line_take (i := 34) (v := ?_) (by simp only [List.getElem?_toArray, List.getElem?_cons_succ, List.getElem?_cons_zero]; rfl) (by kernel_rfl) (by kernel_rfl) (by rfl) ?_ ?_
        rotate_left
        · intro wy hSw; (try dsimp only at hSw); obtain ⟨b0, b1⟩ := hSw.cell 0 rfl; obtain ⟨b2, b3⟩ := hSw.cell 1 rfl; obtain ⟨b4, b5⟩ := hSw.cell 2 rfl; go_simp; (try with_reducible rfl)
        try simp only [Act.put, List.setIfInBounds_toArray, List.set_cons_zero, List.set_cons_succ]
        refine line_take (i := 35) (v := ?_) (by simp only [List.getElem?_toArray, List.getElem?_cons_succ, List.getElem?_cons_zero]; rfl) (by kernel_rfl) (by kernel_rfl) (by rfl) ?_ ?_
        rotate_left
        · intro wy hSw; (try dsimp only at hSw); obtain ⟨b0, b1⟩ := hSw.cell 0 rfl; obtain ⟨b2, b3⟩ := hSw.cell 1 rfl; obtain ⟨b4, b5⟩ := hSw.cell 2 rfl; go_simp; (try with_reducible rfl)
        try simp only [Act.put, List.setIfInBounds_toArray, List.set_cons_zero, List.set_cons_succ]
        refine line_take (i := 36) (v := ?_) (by simp only [List.getElem?_toArray, List.getElem?_cons_succ, List.getElem?_cons_zero]; rfl) (by kernel_rfl) (by kernel_rfl) (by rfl) ?_ ?_
        rotate_left
        · intro wy hSw; (try dsimp only at hSw); obtain ⟨b0, b1⟩ := hSw.cell 0 rfl; obtain ⟨b2, b3⟩ := hSw.cell 1 rfl; obtain ⟨b4, b5⟩ := hSw.cell 2 rfl; go_simp; (try with_reducible rfl)
        try simp only [Act.put, List.setIfInBounds_toArray, List.set_cons_zero, List.set_cons_succ]
        refine line_skip (i := 37) (by simp only [List.getElem?_toArray, List.getElem?_cons_succ, List.getElem?_cons_zero]; rfl) (by kernel_rfl) (by kernel_rfl) (by rfl) ?_
        try simp only [Act.put, List.setIfInBounds_toArray, List.set_cons_zero, List.set_cons_succ]
        refine line_skip (i := 38) (by simp only [List.getElem?_toArray, List.getElem?_cons_succ, List.getElem?_cons_zero]; rfl) (by kernel_rfl) (by kernel_rfl) (by rfl) ?_
        try simp only [Act.put, List.setIfInBounds_toArray, List.set_cons_zero, List.set_cons_succ]
        refine line_skip (i := 39) (by simp only [List.getElem?_toArray, List.getElem?_cons_succ, List.getElem?_cons_zero]; rfl) (by kernel_rfl) (by kernel_rfl) (by rfl) ?_
        try simp only [Act.put, List.setIfInBounds_toArray, List.set_cons_zero, List.set_cons_succ]
        refine line_take (i := 40) (v := ?_) (by simp only [List.getElem?_toArray, List.getElem?_cons_succ, List.getElem?_cons_zero]; rfl) (by kernel_rfl) (by kernel_rfl) (by rfl) ?_ ?_
        rotate_left
        · intro wy hSw; (try dsimp only at hSw); obtain ⟨b0, b1⟩ := hSw.cell 0 rfl; obtain ⟨b2, b3⟩ := hSw.cell 1 rfl; obtain ⟨b4, b5⟩ := hSw.cell 2 rfl; go_simp; (try with_reducible rfl)
        try simp only [Act.put, List.setIfInBounds_toArray, List.set_cons_zero, List.set_cons_succ]
        refine line_take (i := 41) (v := ?_) (by simp only [List.getElem?_toArray, List.getElem?_cons_succ, List.getElem?_cons_zero]; rfl) (by kernel_rfl) (by kernel_rfl) (by rfl) ?_ ?_
        rotate_left
        · intro wy hSw; (try dsimp only at hSw); obtain ⟨b0, b1⟩ := hSw.cell 0 rfl; obtain ⟨b2, b3⟩ := hSw.cell 1 rfl; obtain ⟨b4, b5⟩ := hSw.cell 2 rfl; go_simp; (try with_reducible rfl)
        try simp only [Act.put, List.setIfInBounds_toArray, List.set_cons_zero, List.set_cons_succ]
        refine line_take (i := 42) (v := ?_) (by simp only [List.getElem?_toArray, List.getElem?_cons_succ, List.getElem?_cons_zero]; rfl) (by kernel_rfl) (by kernel_rfl) (by rfl) ?_ ?_
        rotate_left
        · intro wy hSw; (try dsimp only at hSw); obtain ⟨b0, b1⟩ := hSw.cell 0 rfl; obtain ⟨b2, b3⟩ := hSw.cell 1 rfl; obtain ⟨b4, b5⟩ := hSw.cell 2 rfl; go_simp; (try with_reducible rfl)
        try simp only [Act.put, List.setIfInBounds_toArray, List.set_cons_zero, List.set_cons_succ]
        refine line_take (i := 43) (v := ?_) (by simp only [List.getElem?_toArray, List.getElem?_cons_succ, List.getElem?_cons_zero]; rfl) (by kernel_rfl) (by kernel_rfl) (by rfl) ?_ ?_
        rotate_left
        · intro wy hSw; (try dsimp only at hSw); obtain ⟨b0, b1⟩ := hSw.cell 0 rfl; obtain ⟨b2, b3⟩ := hSw.cell 1 rfl; obtain ⟨b4, b5⟩ := hSw.cell 2 rfl; go_simp; (try with_reducible rfl)
        try simp only [Act.put, List.setIfInBounds_toArray, List.set_cons_zero, List.set_cons_succ]
        refine line_take (i := 44) (v := ?_) (by simp only [List.getElem?_toArray, List.getElem?_cons_succ, List.getElem?_cons_zero]; rfl) (by kernel_rfl) (by kernel_rfl) (by rfl) ?_ ?_
        rotate_left
        · intro wy hSw; (try dsimp only at hSw); obtain ⟨b0, b1⟩ := hSw.cell 0 rfl; obtain ⟨b2, b3⟩ := hSw.cell 1 rfl; obtain ⟨b4, b5⟩ := hSw.cell 2 rfl; go_simp; (try with_reducible rfl)
        try simp only [Act.put, List.setIfInBounds_toArray, List.set_cons_zero, List.set_cons_succ]
        refine line_call (i := 45) (v := ?_) ?_ ?_ (by simp only [List.getElem?_toArray, List.getElem?_cons_succ, List.getElem?_cons_zero]; rfl) (by kernel_rfl) (by kernel_rfl) (by rfl) ?hc22 ?hv22 ?hn22
        case hv22 => intro wy hSw; go_simp; (try first | with_reducible rfl | (constructor <;> with_reducible rfl))
        case hc22 => intro wy hSw; (try dsimp only at hSw); refine Calls.mono (by with_reducible exact (HI1.out _ hSw.fact (hSw.list 1 rfl) (hSw.list 0 rfl))) ?_; rintro e9 wq ⟨rfl, hb⟩; refine ⟨?_, hSw.below hb⟩; with_reducible rfl
        try simp only [Act.put, List.setIfInBounds_toArray, List.set_cons_zero, List.set_cons_succ]
        refine line_take (i := 46) (v := ?_) (by simp only [List.getElem?_toArray, List.getElem?_cons_succ, List.getElem?_cons_zero]; rfl) (by kernel_rfl) (by kernel_rfl) (by rfl) ?_ ?_
        rotate_left
        · intro wy hSw; (try dsimp only at hSw); obtain ⟨b0, b1⟩ := hSw.cell 0 rfl; obtain ⟨b2, b3⟩ := hSw.cell 1 rfl; obtain ⟨b4, b5⟩ := hSw.cell 2 rfl; go_simp; (try with_reducible rfl)
        try simp only [Act.put, List.setIfInBounds_toArray, List.set_cons_zero, List.set_cons_succ]
        refine line_take (i := 47) (v := ?_) (by simp only [List.getElem?_toArray, List.getElem?_cons_succ, List.getElem?_cons_zero]; rfl) (by kernel_rfl) (by kernel_rfl) (by rfl) ?_ ?_
        rotate_left
        · intro wy hSw; (try dsimp only at hSw); obtain ⟨b0, b1⟩ := hSw.cell 0 rfl; obtain ⟨b2, b3⟩ := hSw.cell 1 rfl; obtain ⟨b4, b5⟩ := hSw.cell 2 rfl; go_simp; (try with_reducible rfl)
        try simp only [Act.put, List.setIfInBounds_toArray, List.set_cons_zero, List.set_cons_succ]
        refine line_call (i := 48) (v := ?_) ?_ ?_ (by simp only [List.getElem?_toArray, List.getElem?_cons_succ, List.getElem?_cons_zero]; rfl) (by kernel_rfl) (by kernel_rfl) (by rfl) ?hc23 ?hv23 ?hn23
        case hv23 => intro wy hSw; go_simp; (try first | with_reducible rfl | (constructor <;> with_reducible rfl))
        case hc23 => intro wy hSw; (try dsimp only at hSw); refine Calls.mono (by with_reducible exact (HI2.out _ (hSw.list 1 rfl) (hSw.list 0 rfl))) ?_; rintro e9 wq ⟨rfl, hb⟩; refine ⟨?_, hSw.below hb⟩; with_reducible rfl
        try simp only [Act.put, List.setIfInBounds_toArray, List.set_cons_zero, List.set_cons_succ]
        refine line_take (i := 49) (v := ?_) (by simp only [List.getElem?_toArray, List.getElem?_cons_succ, List.getElem?_cons_zero]; rfl) (by kernel_rfl) (by kernel_rfl) (by rfl) ?_ ?_
        rotate_left
        · intro wy hSw; (try dsimp only at hSw); obtain ⟨b0, b1⟩ := hSw.cell 0 rfl; obtain ⟨b2, b3⟩ := hSw.cell 1 rfl; obtain ⟨b4, b5⟩ := hSw.cell 2 rfl; go_simp; (try with_reducible rfl)
        try simp only [Act.put, List.setIfInBounds_toArray, List.set_cons_zero, List.set_cons_succ]
        refine line_take (i := 50) (v := ?_) (by simp only [List.getElem?_toArray, List.getElem?_cons_succ, List.getElem?_cons_zero]; rfl) (by kernel_rfl) (by kernel_rfl) (by rfl) ?_ ?_
        rotate_left
        · intro wy hSw; (try dsimp only at hSw); obtain ⟨b0, b1⟩ := hSw.cell 0 rfl; obtain ⟨b2, b3⟩ := hSw.cell 1 rfl; obtain ⟨b4, b5⟩ := hSw.cell 2 rfl; go_simp; (try with_reducible rfl)
        try simp only [Act.put, List.setIfInBounds_toArray, List.set_cons_zero, List.set_cons_succ]
        refine line_take (i := 51) (v := ?_) (by simp only [List.getElem?_toArray, List.getElem?_cons_succ, List.getElem?_cons_zero]; rfl) (by kernel_rfl) (by kernel_rfl) (by rfl) ?_ ?_
        rotate_left
        · intro wy hSw; (try dsimp only at hSw); obtain ⟨b0, b1⟩ := hSw.cell 0 rfl; obtain ⟨b2, b3⟩ := hSw.cell 1 rfl; obtain ⟨b4, b5⟩ := hSw.cell 2 rfl; go_simp; (try with_reducible rfl)
        try simp only [Act.put, List.setIfInBounds_toArray, List.set_cons_zero, List.set_cons_succ]
        refine line_take (i := 52) (v := ?_) (by simp only [List.getElem?_toArray, List.getElem?_cons_succ, List.getElem?_cons_zero]; rfl) (by kernel_rfl) (by kernel_rfl) (by rfl) ?_ ?_
        rotate_left
        · intro wy hSw; (try dsimp only at hSw); obtain ⟨b0, b1⟩ := hSw.cell 0 rfl; obtain ⟨b2, b3⟩ := hSw.cell 1 rfl; obtain ⟨b4, b5⟩ := hSw.cell 2 rfl; go_simp; (try with_reducible rfl)
        try simp only [Act.put, List.setIfInBounds_toArray, List.set_cons_zero, List.set_cons_succ]
        refine line_take (i := 53) (v := ?_) (by simp only [List.getElem?_toArray, List.getElem?_cons_succ, List.getElem?_cons_zero]; rfl) (by kernel_rfl) (by kernel_rfl) (by rfl) ?_ ?_
        rotate_left
        · intro wy hSw; (try dsimp only at hSw); obtain ⟨b0, b1⟩ := hSw.cell 0 rfl; obtain ⟨b2, b3⟩ := hSw.cell 1 rfl; obtain ⟨b4, b5⟩ := hSw.cell 2 rfl; go_simp; (try with_reducible rfl)
        try simp only [Act.put, List.setIfInBounds_toArray, List.set_cons_zero, List.set_cons_succ]
        refine line_take (i := 54) (v := ?_) (by simp only [List.getElem?_toArray, List.getElem?_cons_succ, List.getElem?_cons_zero]; rfl) (by kernel_rfl) (by kernel_rfl) (by rfl) ?_ ?_
        rotate_left
        · intro wy hSw; (try dsimp only at hSw); obtain ⟨b0, b1⟩ := hSw.cell 0 rfl; obtain ⟨b2, b3⟩ := hSw.cell 1 rfl; obtain ⟨b4, b5⟩ := hSw.cell 2 rfl; go_simp; (try with_reducible rfl)
        try simp only [Act.put, List.setIfInBounds_toArray, List.set_cons_zero, List.set_cons_succ]
        refine line_take (i := 55) (v := ?_) (by simp only [List.getElem?_toArray, List.getElem?_cons_succ, List.getElem?_cons_zero]; rfl) (by kernel_rfl) (by kernel_rfl) (by rfl) ?_ ?_
        rotate_left
        · intro wy hSw; (try dsimp only at hSw); obtain ⟨b0, b1⟩ := hSw.cell 0 rfl; obtain ⟨b2, b3⟩ := hSw.cell 1 rfl; obtain ⟨b4, b5⟩ := hSw.cell 2 rfl; go_simp; (try with_reducible rfl)
        try simp only [Act.put, List.setIfInBounds_toArray, List.set_cons_zero, List.set_cons_succ]
        refine line_take (i := 56) (v := ?_) (by simp only [List.getElem?_toArray, List.getElem?_cons_succ, List.getElem?_cons_zero]; rfl) (by kernel_rfl) (by kernel_rfl) (by rfl) ?_ ?_
        rotate_left
        · intro wy hSw; (try dsimp only at hSw); obtain ⟨b0, b1⟩ := hSw.cell 0 rfl; obtain ⟨b2, b3⟩ := hSw.cell 1 rfl; obtain ⟨b4, b5⟩ := hSw.cell 2 rfl; go_simp; (try with_reducible rfl)
        try simp only [Act.put, List.setIfInBounds_toArray, List.set_cons_zero, List.set_cons_succ]
        refine line_take (i := 57) (v := ?_) (by simp only [List.getElem?_toArray, List.getElem?_cons_succ, List.getElem?_cons_zero]; rfl) (by kernel_rfl) (by kernel_rfl) (by rfl) ?_ ?_
        rotate_left
        · intro wy hSw; (try dsimp only at hSw); obtain ⟨b0, b1⟩ := hSw.cell 0 rfl; obtain ⟨b2, b3⟩ := hSw.cell 1 rfl; obtain ⟨b4, b5⟩ := hSw.cell 2 rfl; go_simp; (try with_reducible rfl)
        try simp only [Act.put, List.setIfInBounds_toArray, List.set_cons_zero, List.set_cons_succ]
        refine line_take (i := 58) (v := ?_) (by simp only [List.getElem?_toArray, List.getElem?_cons_succ, List.getElem?_cons_zero]; rfl) (by kernel_rfl) (by kernel_rfl) (by rfl) ?_ ?_
        rotate_left
        · intro wy hSw; (try dsimp only at hSw); obtain ⟨b0, b1⟩ := hSw.cell 0 rfl; obtain ⟨b2, b3⟩ := hSw.cell 1 rfl; obtain ⟨b4, b5⟩ := hSw.cell 2 rfl; go_simp; (try with_reducible rfl)
        try simp only [Act.put, List.setIfInBounds_toArray, List.set_cons_zero, List.set_cons_succ]
        refine line_take (i := 59) (v := ?_) (by simp only [List.getElem?_toArray, List.getElem?_cons_succ, List.getElem?_cons_zero]; rfl) (by kernel_rfl) (by kernel_rfl) (by rfl) ?_ ?_
        rotate_left
        · intro wy hSw; (try dsimp only at hSw); obtain ⟨b0, b1⟩ := hSw.cell 0 rfl; obtain ⟨b2, b3⟩ := hSw.cell 1 rfl; obtain ⟨b4, b5⟩ := hSw.cell 2 rfl; go_simp; (try with_reducible rfl)
        try simp only [Act.put, List.setIfInBounds_toArray, List.set_cons_zero, List.set_cons_succ]
        refine line_take (i := 60) (v := ?_) (by simp only [List.getElem?_toArray, List.getElem?_cons_succ, List.getElem?_cons_zero]; rfl) (by kernel_rfl) (by kernel_rfl) (by rfl) ?_ ?_
        rotate_left
        · intro wy hSw; (try dsimp only at hSw); obtain ⟨b0, b1⟩ := hSw.cell 0 rfl; obtain ⟨b2, b3⟩ := hSw.cell 1 rfl; obtain ⟨b4, b5⟩ := hSw.cell 2 rfl; go_simp; (try with_reducible rfl)
        try simp only [Act.put, List.setIfInBounds_toArray, List.set_cons_zero, List.set_cons_succ]
        refine line_take (i := 61) (v := ?_) (by simp only [List.getElem?_toArray, List.getElem?_cons_succ, List.getElem?_cons_zero]; rfl) (by kernel_rfl) (by kernel_rfl) (by rfl) ?_ ?_
        rotate_left
        · intro wy hSw; (try dsimp only at hSw); obtain ⟨b0, b1⟩ := hSw.cell 0 rfl; obtain ⟨b2, b3⟩ := hSw.cell 1 rfl; obtain ⟨b4, b5⟩ := hSw.cell 2 rfl; go_simp; (try with_reducible rfl)
        try simp only [Act.put, List.setIfInBounds_toArray, List.set_cons_zero, List.set_cons_succ]
        refine line_take (i := 62) (v := ?_) (by simp only [List.getElem?_toArray, List.getElem?_cons_succ, List.getElem?_cons_zero]; rfl) (by kernel_rfl) (by kernel_rfl) (by rfl) ?_ ?_
        rotate_left
        · intro wy hSw; (try dsimp only at hSw); obtain ⟨b0, b1⟩ := hSw.cell 0 rfl; obtain ⟨b2, b3⟩ := hSw.cell 1 rfl; obtain ⟨b4, b5⟩ := hSw.cell 2 rfl; go_simp; (try with_reducible rfl)
        try simp only [Act.put, List.setIfInBounds_toArray, List.set_cons_zero, List.set_cons_succ]
        refine line_take (i := 63) (v := ?_) (by simp only [List.getElem?_toArray, List.getElem?_cons_succ, List.getElem?_cons_zero]; rfl) (by kernel_rfl) (by kernel_rfl) (by rfl) ?_ ?_
        rotate_left
        · intro wy hSw; (try dsimp only at hSw); obtain ⟨b0, b1⟩ := hSw.cell 0 rfl; obtain ⟨b2, b3⟩ := hSw.cell 1 rfl; obtain ⟨b4, b5⟩ := hSw.cell 2 rfl; go_simp; (try with_reducible rfl)
        try simp only [Act.put, List.setIfInBounds_toArray, List.set_cons_zero, List.set_cons_succ]
        refine line_take (i := 64) (v := ?_) (by simp only [List.getElem?_toArray, List.getElem?_cons_succ, List.getElem?_cons_zero]; rfl) (by kernel_rfl) (by kernel_rfl) (by rfl) ?_ ?_
        rotate_left
        · intro wy hSw; (try dsimp only at hSw); obtain ⟨b0, b1⟩ := hSw.cell 0 rfl; obtain ⟨b2, b3⟩ := hSw.cell 1 rfl; obtain ⟨b4, b5⟩ := hSw.cell 2 rfl; go_simp; (try with_reducible rfl)
        try simp only [Act.put, List.setIfInBounds_toArray, List.set_cons_zero, List.set_cons_succ]
        refine line_take (i := 65) (v := ?_) (by simp only [List.getElem?_toArray, List.getElem?_cons_succ, List.getElem?_cons_zero]; rfl) (by kernel_rfl) (by kernel_rfl) (by rfl) ?_ ?_
        rotate_left
        · intro wy hSw; (try dsimp only at hSw); obtain ⟨b0, b1⟩ := hSw.cell 0 rfl; obtain ⟨b2, b3⟩ := hSw.cell 1 rfl; obtain ⟨b4, b5⟩ := hSw.cell 2 rfl; go_simp; (try with_reducible rfl)
        try simp only [Act.put, List.setIfInBounds_toArray, List.set_cons_zero, List.set_cons_succ]
        refine line_take (i := 66) (v := ?_) (by simp only [List.getElem?_toArray, List.getElem?_cons_succ, List.getElem?_cons_zero]; rfl) (by kernel_rfl) (by kernel_rfl) (by rfl) ?_ ?_
        rotate_left
        · intro wy hSw; (try dsimp only at hSw); obtain ⟨b0, b1⟩ := hSw.cell 0 rfl; obtain ⟨b2, b3⟩ := hSw.cell 1 rfl; obtain ⟨b4, b5⟩ := hSw.cell 2 rfl; go_simp; (try with_reducible rfl)
        try simp only [Act.put, List.setIfInBounds_toArray, List.set_cons_zero, List.set_cons_succ]
        refine line_take (i := 67) (v := ?_) (by simp only [List.getElem?_toArray, List.getElem?_cons_succ, List.getElem?_cons_zero]; rfl) (by kernel_rfl) (by kernel_rfl) (by rfl) ?_ ?_
        rotate_left
        · intro wy hSw; (try dsimp only at hSw); obtain ⟨b0, b1⟩ := hSw.cell 0 rfl; obtain ⟨b2, b3⟩ := hSw.cell 1 rfl; obtain ⟨b4, b5⟩ := hSw.cell 2 rfl; go_simp; (try with_reducible rfl)
        try simp only [Act.put, List.setIfInBounds_toArray, List.set_cons_zero, List.set_cons_succ]
        refine line_take (i := 68) (v := ?_) (by simp only [List.getElem?_toArray, List.getElem?_cons_succ, List.getElem?_cons_zero]; rfl) (by kernel_rfl) (by kernel_rfl) (by rfl) ?_ ?_
        rotate_left
        · intro wy hSw; (try dsimp only at hSw); obtain ⟨b0, b1⟩ := hSw.cell 0 rfl; obtain ⟨b2, b3⟩ := hSw.cell 1 rfl; obtain ⟨b4, b5⟩ := hSw.cell 2 rfl; go_simp; (try with_reducible rfl)
        try simp only [Act.put, List.setIfInBounds_toArray, List.set_cons_zero, List.set_cons_succ]
        refine line_take (i := 69) (v := ?_) (by simp only [List.getElem?_toArray, List.getElem?_cons_succ, List.getElem?_cons_zero]; rfl) (by kernel_rfl) (by kernel_rfl) (by rfl) ?_ ?_
        rotate_left
        · intro wy hSw; (try dsimp only at hSw); obtain ⟨b0, b1⟩ := hSw.cell 0 rfl; obtain ⟨b2, b3⟩ := hSw.cell 1 rfl; obtain ⟨b4, b5⟩ := hSw.cell 2 rfl; go_simp; (try with_reducible rfl)
        try simp only [Act.put, List.setIfInBounds_toArray, List.set_cons_zero, List.set_cons_succ]
        refine line_take (i := 70) (v := ?_) (by simp only [List.getElem?_toArray, List.getElem?_cons_succ, List.getElem?_cons_zero]; rfl) (by kernel_rfl) (by kernel_rfl) (by rfl) ?_ ?_
        rotate_left
        · intro wy hSw; (try dsimp only at hSw); obtain ⟨b0, b1⟩ := hSw.cell 0 rfl; obtain ⟨b2, b3⟩ := hSw.cell 1 rfl; obtain ⟨b4, b5⟩ := hSw.cell 2 rfl; go_simp; (try with_reducible rfl)
        try simp only [Act.put, List.setIfInBounds_toArray, List.set_cons_zero, List.set_cons_succ]
        refine line_take (i := 71) (v := ?_) (by simp only [List.getElem?_toArray, List.getElem?_cons_succ, List.getElem?_cons_zero]; rfl) (by kernel_rfl) (by kernel_rfl) (by rfl) ?_ ?_
        rotate_left
        · intro wy hSw; (try dsimp only at hSw); obtain ⟨b0, b1⟩ := hSw.cell 0 rfl; obtain ⟨b2, b3⟩ := hSw.cell 1 rfl; obtain ⟨b4, b5⟩ := hSw.cell 2 rfl; go_simp; (try with_reducible rfl)
        try simp only [Act.put, List.setIfInBounds_toArray, List.set_cons_zero, List.set_cons_succ]
        refine Line.done (by kernel_rfl) ?_
        intro wf hSf
        have hbf := hSf.base
        clear hSf HR13
        go_wp2
        go_ret
        exact ⟨rfl, hbf⟩
    · obtain ⟨N, hN, h5, -, hrv, hsm⟩ := HCF.out rfl
      have HTW := Lib.hid (fun W E k (h1 : Ints W W.heap.size E r) => HTO.out W E k h1 hrv)
      rw [hsm] at HTW
      have HVW := Lib.hid (fun W (h0 : T W) (h1 : Ints W W.heap.size Af f) => HVA.out W ((2 ^ N - 1 : Nat) : Int) h0 h1)
      generalize valueOf n f ((2 ^ N - 1 : Nat) : Int) = vv at HTW HVW
      have p8 : (vv == vv) = true := by simp
      have hp2 := Nat.two_pow_pos N
      have h32 : 2 ^ N ≤ 32 := Nat.le_trans (Nat.pow_le_pow_right (by decide) h5) (by decide)
      obtain ⟨p, hp⟩ : ∃ p : Nat, (2 ^ N - 1 : Nat) = p := ⟨_, rfl⟩
      have hpz : (2 : Int) ^ N = (p : Int) + 1 := by
        have h1 : ((2 ^ N : Nat) : Int) = (p : Int) + 1 := by omega
        rw [← h1]; push_cast; rfl
      rw [hp] at HVW
      subst hN
      have hN0 : ¬ (N : Int) < 0 := by omega
      have hN64 : (N : Int) < 64 := by omega
      have hpow : IntKind.i64.wrap ((p : Int) + 1) = (p : Int) + 1 := IntWalk.i64_in _ (by omega)
      have hpow2 : IntKind.i64.wrap (p : Int) = (p : Int) := IntWalk.i64_in _ (by omega)
      have htn : ((N : Int)).toNat = N := Int.toNat_natCast N
      clear hrv hsm hp2 h32 hp HCF HVA HTO
      as_aux_lemma =>
        refine wp_region_line (S := (fun W => Kc T w W [(t7.heap.size, n3, .slice Ah f3.length ch), (t4.heap.size, n2, .slice Ag f2.length cg), (t1.heap.size, (N : Int), .slice Af f.length cf)] [(D5, y), (Ah, f3), (V4, o), (V3, o), (Ag, f2), (V2, r), (V1, r), (Af, f)])) (by kernel_rfl) (by kernel_rfl) ?_ ?_
        · exact HR13.out.drew
        refine line_take (i := 0) (v := ?_) (by simp only [List.getElem?_toArray, List.getElem?_cons_succ, List.getElem?_cons_zero]; rfl) (by kernel_rfl) (by kernel_rfl) (by rfl) ?_ ?_
        rotate_left
        · intro wy hSw; (try dsimp only at hSw); obtain ⟨b0, b1⟩ := hSw.cell 0 rfl; obtain ⟨b2, b3⟩ := hSw.cell 1 rfl; obtain ⟨b4, b5⟩ := hSw.cell 2 rfl; go_simp; (try with_reducible rfl)
        try simp only [Act.put, List.setIfInBounds_toArray, List.set_cons_zero, List.set_cons_succ]
        refine line_take (i := 1) (v := ?_) (by simp only [List.getElem?_toArray, List.getElem?_cons_succ, List.getElem?_cons_zero]; rfl) (by kernel_rfl) (by kernel_rfl) (by rfl) ?_ ?_
        rotate_left
        · intro wy hSw; (try dsimp only at hSw); obtain ⟨b0, b1⟩ := hSw.cell 0 rfl; obtain ⟨b2, b3⟩ := hSw.cell 1 rfl; obtain ⟨b4, b5⟩ := hSw.cell 2 rfl; go_simp; (try with_reducible rfl)
        try simp only [Act.put, List.setIfInBounds_toArray, List.set_cons_zero, List.set_cons_succ]
        refine line_take (i := 2) (v := ?_) (by simp only [List.getElem?_toArray, List.getElem?_cons_succ, List.getElem?_cons_zero]; rfl) (by kernel_rfl) (by kernel_rfl) (by rfl) ?_ ?_
        rotate_left
        · intro wy hSw; (try dsimp only at hSw); obtain ⟨b0, b1⟩ := hSw.cell 0 rfl; obtain ⟨b2, b3⟩ := hSw.cell 1 rfl; obtain ⟨b4, b5⟩ := hSw.cell 2 rfl; go_simp; (try with_reducible rfl)
        try simp only [Act.put, List.setIfInBounds_toArray, List.set_cons_zero, List.set_cons_succ]
        refine line_take (i := 3) (v := ?_) (by simp only [List.getElem?_toArray, List.getElem?_cons_succ, List.getElem?_cons_zero]; rfl) (by kernel_rfl) (by kernel_rfl) (by rfl) ?_ ?_
        rotate_left
        · intro wy hSw; (try dsimp only at hSw); obtain ⟨b0, b1⟩ := hSw.cell 0 rfl; obtain ⟨b2, b3⟩ := hSw.cell 1 rfl; obtain ⟨b4, b5⟩ := hSw.cell 2 rfl; go_simp; (try with_reducible rfl)
        try simp only [Act.put, List.setIfInBounds_toArray, List.set_cons_zero, List.set_cons_succ]
        refine line_take (i := 4) (v := ?_) (by simp only [List.getElem?_toArray, List.getElem?_cons_succ, List.getElem?_cons_zero]; rfl) (by kernel_rfl) (by kernel_rfl) (by rfl) ?_ ?_
        rotate_left
        · intro wy hSw; (try dsimp only at hSw); obtain ⟨b0, b1⟩ := hSw.cell 0 rfl; obtain ⟨b2, b3⟩ := hSw.cell 1 rfl; obtain ⟨b4, b5⟩ := hSw.cell 2 rfl; go_simp; (try with_reducible rfl)
        try simp only [Act.put, List.setIfInBounds_toArray, List.set_cons_zero, List.set_cons_succ]
        refine line_take (i := 5) (v := ?_) (by simp only [List.getElem?_toArray, List.getElem?_cons_succ, List.getElem?_cons_zero]; rfl) (by kernel_rfl) (by kernel_rfl) (by rfl) ?_ ?_
        rotate_left
        · intro wy hSw; (try dsimp only at hSw); obtain ⟨b0, b1⟩ := hSw.cell 0 rfl; obtain ⟨b2, b3⟩ := hSw.cell 1 rfl; obtain ⟨b4, b5⟩ := hSw.cell 2 rfl; go_simp; (try with_reducible rfl)
        try simp only [Act.put, List.setIfInBounds_toArray, List.set_cons_zero, List.set_cons_succ]
        refine line_call (i := 6) (v := ?_) ?_ ?_ (by simp only [List.getElem?_toArray, List.getElem?_cons_succ, List.getElem?_cons_zero]; rfl) (by kernel_rfl) (by kernel_rfl) (by rfl) ?hc24 ?hv24 ?hn24
        case hv24 => intro wy hSw; go_simp; (try first | with_reducible rfl | (constructor <;> with_reducible rfl))
        case hc24 => intro wy hSw; (try dsimp only at hSw); refine Calls.mono (by with_reducible exact (sameInts_same V1 V2 r k1 k2 _ (Lib.hid (hSw.list 6 rfl)) (Lib.hid (hSw.list 5 rfl)) (by have := HRL.out; omega))) ?_; rintro e9 wq ⟨rfl, q9, rfl⟩; refine ⟨?_, hSw.drewN q9⟩; with_reducible rfl
        try simp only [Act.put, List.setIfInBounds_toArray, List.set_cons_zero, List.set_cons_succ]
        refine line_take (i := 7) (v := ?_) (by simp only [List.getElem?_toArray, List.getElem?_cons_succ, List.getElem?_cons_zero]; rfl) (by kernel_rfl) (by kernel_rfl) (by rfl) ?_ ?_
        rotate_left
        · intro wy hSw; (try dsimp only at hSw); obtain ⟨b0, b1⟩ := hSw.cell 0 rfl; obtain ⟨b2, b3⟩ := hSw.cell 1 rfl; obtain ⟨b4, b5⟩ := hSw.cell 2 rfl; go_simp; (try with_reducible rfl)
        try simp only [Act.put, List.setIfInBounds_toArray, List.set_cons_zero, List.set_cons_succ]
        refine line_take (i := 8) (v := ?_) (by simp only [List.getElem?_toArray, List.getElem?_cons_succ, List.getElem?_cons_zero]; rfl) (by kernel_rfl) (by kernel_rfl) (by rfl) ?_ ?_
        rotate_left
        · intro wy hSw; (try dsimp only at hSw); obtain ⟨b0, b1⟩ := hSw.cell 0 rfl; obtain ⟨b2, b3⟩ := hSw.cell 1 rfl; obtain ⟨b4, b5⟩ := hSw.cell 2 rfl; go_simp; (try with_reducible rfl)
        try simp only [Act.put, List.setIfInBounds_toArray, List.set_cons_zero, List.set_cons_succ]
        refine line_take (i := 9) (v := ?_) (by simp only [List.getElem?_toArray, List.getElem?_cons_succ, List.getElem?_cons_zero]; rfl) (by kernel_rfl) (by kernel_rfl) (by rfl) ?_ ?_
        rotate_left
        · intro wy hSw; (try dsimp only at hSw); obtain ⟨b0, b1⟩ := hSw.cell 0 rfl; obtain ⟨b2, b3⟩ := hSw.cell 1 rfl; obtain ⟨b4, b5⟩ := hSw.cell 2 rfl; go_simp; (try with_reducible rfl)
        try simp only [Act.put, List.setIfInBounds_toArray, List.set_cons_zero, List.set_cons_succ]
        refine line_take (i := 10) (v := ?_) (by simp only [List.getElem?_toArray, List.getElem?_cons_succ, List.getElem?_cons_zero]; rfl) (by kernel_rfl) (by kernel_rfl) (by rfl) ?_ ?_
        rotate_left
        · intro wy hSw; (try dsimp only at hSw); obtain ⟨b0, b1⟩ := hSw.cell 0 rfl; obtain ⟨b2, b3⟩ := hSw.cell 1 rfl; obtain ⟨b4, b5⟩ := hSw.cell 2 rfl; go_simp; (try with_reducible rfl)
        try simp only [Act.put, List.setIfInBounds_toArray, List.set_cons_zero, List.set_cons_succ]
        refine line_take (i := 11) (v := ?_) (by simp only [List.getElem?_toArray, List.getElem?_cons_succ, List.getElem?_cons_zero]; rfl) (by kernel_rfl) (by kernel_rfl) (by rfl) ?_ ?_
        rotate_left
        · intro wy hSw; (try dsimp only at hSw); obtain ⟨b0, b1⟩ := hSw.cell 0 rfl; obtain ⟨b2, b3⟩ := hSw.cell 1 rfl; obtain ⟨b4, b5⟩ := hSw.cell 2 rfl; go_simp; (try with_reducible rfl)
        try simp only [Act.put, List.setIfInBounds_toArray, List.set_cons_zero, List.set_cons_succ]
        refine line_take (i := 12) (v := ?_) (by simp only [List.getElem?_toArray, List.getElem?_cons_succ, List.getElem?_cons_zero]; rfl) (by kernel_rfl) (by kernel_rfl) (by rfl) ?_ ?_
        rotate_left
        · intro wy hSw; (try dsimp only at hSw); obtain ⟨b0, b1⟩ := hSw.cell 0 rfl; obtain ⟨b2, b3⟩ := hSw.cell 1 rfl; obtain ⟨b4, b5⟩ := hSw.cell 2 rfl; go_simp; (try with_reducible rfl)
        try simp only [Act.put, List.setIfInBounds_toArray, List.set_cons_zero, List.set_cons_succ]
        refine line_call (i := 13) (v := ?_) ?_ ?_ (by simp only [List.getElem?_toArray, List.getElem?_cons_succ, List.getElem?_cons_zero]; rfl) (by kernel_rfl) (by kernel_rfl) (by rfl) ?hc25 ?hv25 ?hn25
        case hv25 => intro wy hSw; go_simp; (try first | with_reducible rfl | (constructor <;> with_reducible rfl))
        case hc25 => intro wy hSw; (try dsimp only at hSw); refine Calls.mono (by with_reducible exact (HTW.out _ V2 k2 (hSw.list 5 rfl))) ?_; rintro e9 wq ⟨rfl, rfl⟩; refine ⟨?_, hSw⟩; with_reducible rfl
        try simp only [Act.put, List.setIfInBounds_toArray, List.set_cons_zero, List.set_cons_succ]
        refine line_take (i := 14) (v := ?_) (by simp only [List.getElem?_toArray, List.getElem?_cons_succ, List.getElem?_cons_zero]; rfl) (by kernel_rfl) (by kernel_rfl) (by rfl) ?_ ?_
        rotate_left
        · intro wy hSw; (try dsimp only at hSw); obtain ⟨b0, b1⟩ := hSw.cell 0 rfl; obtain ⟨b2, b3⟩ := hSw.cell 1 rfl; obtain ⟨b4, b5⟩ := hSw.cell 2 rfl; go_simp; (try with_reducible rfl)
        try simp only [Act.put, List.setIfInBounds_toArray, List.set_cons_zero, List.set_cons_succ]
        refine line_take (i := 15) (v := ?_) (by simp only [List.getElem?_toArray, List.getElem?_cons_succ, List.getElem?_cons_zero]; rfl) (by kernel_rfl) (by kernel_rfl) (by rfl) ?_ ?_
        rotate_left
        · intro wy hSw; (try dsimp only at hSw); obtain ⟨b0, b1⟩ := hSw.cell 0 rfl; obtain ⟨b2, b3⟩ := hSw.cell 1 rfl; obtain ⟨b4, b5⟩ := hSw.cell 2 rfl; go_simp; (try with_reducible rfl)
        try simp only [Act.put, List.setIfInBounds_toArray, List.set_cons_zero, List.set_cons_succ]
        refine line_take (i := 16) (v := ?_) (by simp only [List.getElem?_toArray, List.getElem?_cons_succ, List.getElem?_cons_zero]; rfl) (by kernel_rfl) (by kernel_rfl) (by rfl) ?_ ?_
        rotate_left
        · intro wy hSw; (try dsimp only at hSw); obtain ⟨b0, b1⟩ := hSw.cell 0 rfl; obtain ⟨b2, b3⟩ := hSw.cell 1 rfl; obtain ⟨b4, b5⟩ := hSw.cell 2 rfl; go_simp; (try with_reducible rfl)
        try simp only [Act.put, List.setIfInBounds_toArray, List.set_cons_zero, List.set_cons_succ]
        refine line_take (i := 17) (v := ?_) (by simp only [List.getElem?_toArray, List.getElem?_cons_succ, List.getElem?_cons_zero]; rfl) (by kernel_rfl) (by kernel_rfl) (by rfl) ?_ ?_
        rotate_left
        · intro wy hSw; (try dsimp only at hSw); obtain ⟨b0, b1⟩ := hSw.cell 0 rfl; obtain ⟨b2, b3⟩ := hSw.cell 1 rfl; obtain ⟨b4, b5⟩ := hSw.cell 2 rfl; go_simp; (try with_reducible rfl)
        try simp only [Act.put, List.setIfInBounds_toArray, List.set_cons_zero, List.set_cons_succ]
        refine line_take (i := 18) (v := ?_) (by simp only [List.getElem?_toArray, List.getElem?_cons_succ, List.getElem?_cons_zero]; rfl) (by kernel_rfl) (by kernel_rfl) (by rfl) ?_ ?_
        rotate_left
        · intro wy hSw; (try dsimp only at hSw); obtain ⟨b0, b1⟩ := hSw.cell 0 rfl; obtain ⟨b2, b3⟩ := hSw.cell 1 rfl; obtain ⟨b4, b5⟩ := hSw.cell 2 rfl; go_simp; (try with_reducible rfl)
        try simp only [Act.put, List.setIfInBounds_toArray, List.set_cons_zero, List.set_cons_succ]
        refine line_call (i := 19) (v := ?_) ?_ ?_ (by simp only [List.getElem?_toArray, List.getElem?_cons_succ, List.getElem?_cons_zero]; rfl) (by kernel_rfl) (by kernel_rfl) (by rfl) ?hc26 ?hv26 ?hn26
        case hv26 => intro wy hSw; go_simp; (try first | with_reducible rfl | (constructor <;> with_reducible rfl))
        case hc26 => intro wy hSw; (try dsimp only at hSw); refine Calls.mono (by with_reducible exact (HVW.out _ hSw.fact (hSw.list 7 rfl))) ?_; rintro e9 wq ⟨rfl, hb⟩; refine ⟨?_, hSw.below hb⟩; with_reducible rfl
        try simp only [Act.put, List.setIfInBounds_toArray, List.set_cons_zero, List.set_cons_succ]
        refine line_take (i := 20) (v := ?_) (by simp only [List.getElem?_toArray, List.getElem?_cons_succ, List.getElem?_cons_zero]; rfl) (by kernel_rfl) (by kernel_rfl) (by rfl) ?_ ?_
        rotate_left
        · intro wy hSw; (try dsimp only at hSw); obtain ⟨b0, b1⟩ := hSw.cell 0 rfl; obtain ⟨b2, b3⟩ := hSw.cell 1 rfl; obtain ⟨b4, b5⟩ := hSw.cell 2 rfl; go_simp; (try with_reducible rfl)
        try simp only [Act.put, List.setIfInBounds_toArray, List.set_cons_zero, List.set_cons_succ]
        refine line_take (i := 21) (v := ?_) (by simp only [List.getElem?_toArray, List.getElem?_cons_succ, List.getElem?_cons_zero]; rfl) (by kernel_rfl) (by kernel_rfl) (by rfl) ?_ ?_
        rotate_left
        · intro wy hSw; (try dsimp only at hSw); obtain ⟨b0, b1⟩ := hSw.cell 0 rfl; obtain ⟨b2, b3⟩ := hSw.cell 1 rfl; obtain ⟨b4, b5⟩ := hSw.cell 2 rfl; go_simp; (try with_reducible rfl)
        try simp only [Act.put, List.setIfInBounds_toArray, List.set_cons_zero, List.set_cons_succ]
        refine line_take (i := 22) (v := ?_) (by simp only [List.getElem?_toArray, List.getElem?_cons_succ, List.getElem?_cons_zero]; rfl) (by kernel_rfl) (by kernel_rfl) (by rfl) ?_ ?_
        rotate_left
        · intro wy hSw; (try dsimp only at hSw); obtain ⟨b0, b1⟩ := hSw.cell 0 rfl; obtain ⟨b2, b3⟩ := hSw.cell 1 rfl; obtain ⟨b4, b5⟩ := hSw.cell 2 rfl; go_simp; (try with_reducible rfl)
        try simp only [Act.put, List.setIfInBounds_toArray, List.set_cons_zero, List.set_cons_succ]
        refine line_take (i := 23) (v := ?_) (by simp only [List.getElem?_toArray, List.getElem?_cons_succ, List.getElem?_cons_zero]; rfl) (by kernel_rfl) (by kernel_rfl) (by rfl) ?_ ?_
        rotate_left
        · intro wy hSw; (try dsimp only at hSw); obtain ⟨b0, b1⟩ := hSw.cell 0 rfl; obtain ⟨b2, b3⟩ := hSw.cell 1 rfl; obtain ⟨b4, b5⟩ := hSw.cell 2 rfl; go_simp; (try with_reducible rfl)
        try simp only [Act.put, List.setIfInBounds_toArray, List.set_cons_zero, List.set_cons_succ]
        refine line_take (i := 24) (v := ?_) (by simp only [List.getElem?_toArray, List.getElem?_cons_succ, List.getElem?_cons_zero]; rfl) (by kernel_rfl) (by kernel_rfl) (by rfl) ?_ ?_
        rotate_left
        · intro wy hSw; (try dsimp only at hSw); obtain ⟨b0, b1⟩ := hSw.cell 0 rfl; obtain ⟨b2, b3⟩ := hSw.cell 1 rfl; obtain ⟨b4, b5⟩ := hSw.cell 2 rfl; go_simp; (try with_reducible rfl)
        try simp only [Act.put, List.setIfInBounds_toArray, List.set_cons_zero, List.set_cons_succ]
        refine line_take (i := 25) (v := ?_) (by simp only [List.getElem?_toArray, List.getElem?_cons_succ, List.getElem?_cons_zero]; rfl) (by kernel_rfl) (by kernel_rfl) (by rfl) ?_ ?_
        rotate_left
        · intro wy hSw; (try dsimp only at hSw); obtain ⟨b0, b1⟩ := hSw.cell 0 rfl; obtain ⟨b2, b3⟩ := hSw.cell 1 rfl; obtain ⟨b4, b5⟩ := hSw.cell 2 rfl; go_simp; (try with_reducible rfl)
        try simp only [Act.put, List.setIfInBounds_toArray, List.set_cons_zero, List.set_cons_succ]
        refine line_take (i := 26) (v := ?_) (by simp only [List.getElem?_toArray, List.getElem?_cons_succ, List.getElem?_cons_zero]; rfl) (by kernel_rfl) (by kernel_rfl) (by rfl) ?_ ?_
        rotate_left
        · intro wy hSw; (try dsimp only at hSw); obtain ⟨b0, b1⟩ := hSw.cell 0 rfl; obtain ⟨b2, b3⟩ := hSw.cell 1 rfl; obtain ⟨b4, b5⟩ := hSw.cell 2 rfl; go_simp; (try with_reducible rfl)
        try simp only [Act.put, List.setIfInBounds_toArray, List.set_cons_zero, List.set_cons_succ]
        refine line_take (i := 27) (v := ?_) (by simp only [List.getElem?_toArray, List.getElem?_cons_succ, List.getElem?_cons_zero]; rfl) (by kernel_rfl) (by kernel_rfl) (by rfl) ?_ ?_
        rotate_left
        · intro wy hSw; (try dsimp only at hSw); obtain ⟨b0, b1⟩ := hSw.cell 0 rfl; obtain ⟨b2, b3⟩ := hSw.cell 1 rfl; obtain ⟨b4, b5⟩ := hSw.cell 2 rfl; go_simp; (try with_reducible rfl)
        try simp only [Act.put, List.setIfInBounds_toArray, List.set_cons_zero, List.set_cons_succ]
        refine line_take (i := 28) (v := ?_) (by simp only [List.getElem?_toArray, List.getElem?_cons_succ, List.getElem?_cons_zero]; rfl) (by kernel_rfl) (by kernel_rfl) (by rfl) ?_ ?_
        rotate_left
        · intro wy hSw; (try dsimp only at hSw); obtain ⟨b0, b1⟩ := hSw.cell 0 rfl; obtain ⟨b2, b3⟩ := hSw.cell 1 rfl; obtain ⟨b4, b5⟩ := hSw.cell 2 rfl; go_simp; (try with_reducible rfl)
        try simp only [Act.put, List.setIfInBounds_toArray, List.set_cons_zero, List.set_cons_succ]
        refine line_take (i := 29) (v := ?_) (by simp only [List.getElem?_toArray, List.getElem?_cons_succ, List.getElem?_cons_zero]; rfl) (by kernel_rfl) (by kernel_rfl) (by rfl) ?_ ?_
        rotate_left
        · intro wy hSw; (try dsimp only at hSw); obtain ⟨b0, b1⟩ := hSw.cell 0 rfl; obtain ⟨b2, b3⟩ := hSw.cell 1 rfl; obtain ⟨b4, b5⟩ := hSw.cell 2 rfl; go_simp; (try with_reducible rfl)
        try simp only [Act.put, List.setIfInBounds_toArray, List.set_cons_zero, List.set_cons_succ]
        refine line_take (i := 30) (v := ?_) (by simp only [List.getElem?_toArray, List.getElem?_cons_succ, List.getElem?_cons_zero]; rfl) (by kernel_rfl) (by kernel_rfl) (by rfl) ?_ ?_
        rotate_left
        · intro wy hSw; (try dsimp only at hSw); obtain ⟨b0, b1⟩ := hSw.cell 0 rfl; obtain ⟨b2, b3⟩ := hSw.cell 1 rfl; obtain ⟨b4, b5⟩ := hSw.cell 2 rfl; go_simp; (try with_reducible rfl)
        try simp only [Act.put, List.setIfInBounds_toArray, List.set_cons_zero, List.set_cons_succ]
        refine line_call (i := 31) (v := ?_) ?_ ?_ (by simp only [List.getElem?_toArray, List.getElem?_cons_succ, List.getElem?_cons_zero]; rfl) (by kernel_rfl) (by kernel_rfl) (by rfl) ?hc27 ?hv27 ?hn27
        case hv27 => intro wy hSw; go_simp; (try first | with_reducible rfl | (constructor <;> with_reducible rfl))
        case hc27 => intro wy hSw; (try dsimp only at hSw); refine Calls.mono (by with_reducible exact (sameInts_same V3 V4 o k3 k4 _ (Lib.hid (hSw.list 3 rfl)) (Lib.hid (hSw.list 2 rfl)) (by have := HOL.out; omega))) ?_; rintro e9 wq ⟨rfl, q9, rfl⟩; refine ⟨?_, hSw.drewN q9⟩; with_reducible rfl
        try simp only [Act.put, List.setIfInBounds_toArray, List.set_cons_zero, List.set_cons_succ]
        refine line_take (i := 32) (v := ?_) (by simp only [List.getElem?_toArray, List.getElem?_cons_succ, List.getElem?_cons_zero]; rfl) (by kernel_rfl) (by kernel_rfl) (by rfl) ?_ ?_
        rotate_left
        · intro wy hSw; (try dsimp only at hSw); obtain ⟨b0, b1⟩ := hSw.cell 0 rfl; obtain ⟨b2, b3⟩ := hSw.cell 1 rfl; obtain ⟨b4, b5⟩ := hSw.cell 2 rfl; go_simp; (try with_reducible rfl)
        try simp only [Act.put, List.setIfInBounds_toArray, List.set_cons_zero, List.set_cons_succ]
        refine line_take (i := 33) (v := ?_) (by simp only [List.getElem?_toArray, List.getElem?_cons_succ, List.getElem?_cons_zero]; rfl) (by kernel_rfl) (by kernel_rfl) (by rfl) ?_ ?_
        rotate_left
        · intro wy hSw; (try dsimp only at hSw); obtain ⟨b0, b1⟩ := hSw.cell 0 rfl; obtain ⟨b2, b3⟩ := hSw.cell 1 rfl; obtain ⟨b4, b5⟩ := hSw.cell 2 rfl; go_simp; (try with_reducible rfl)
        try simp only [Act.put, List.setIfInBounds_toArray, List.set_cons_zero, List.set_cons_succ]
        refine line_take (i := 34) (v := ?_) (by simp only [List.getElem?_toArray, List.getElem?_cons_succ, List.getElem?_cons_zero]; rfl) (by kernel_rfl) (by kernel_rfl) (by rfl) ?_ ?_
        rotate_left
        · intro wy hSw; (try dsimp only at hSw); obtain ⟨b0, b1⟩ := hSw.cell 0 rfl; obtain ⟨b2, b3⟩ := hSw.cell 1 rfl; obtain ⟨b4, b5⟩ := hSw.cell 2 rfl; go_simp; (try with_reducible rfl)
        try simp only [Act.put, List.setIfInBounds_toArray, List.set_cons_zero, List.set_cons_succ]
        refine line_take (i := 35) (v := ?_) (by simp only [List.getElem?_toArray, List.getElem?_cons_succ, List.getElem?_cons_zero]; rfl) (by kernel_rfl) (by kernel_rfl) (by rfl) ?_ ?_
        rotate_left
        · intro wy hSw; (try dsimp only at hSw); obtain ⟨b0, b1⟩ := hSw.cell 0 rfl; obtain ⟨b2, b3⟩ := hSw.cell 1 rfl; obtain ⟨b4, b5⟩ := hSw.cell 2 rfl; go_simp; (try with_reducible rfl)
        try simp only [Act.put, List.setIfInBounds_toArray, List.set_cons_zero, List.set_cons_succ]
        refine line_take (i := 36) (v := ?_) (by simp only [List.getElem?_toArray, List.getElem?_cons_succ, List.getElem?_cons_zero]; rfl) (by kernel_rfl) (by kernel_rfl) (by rfl) ?_ ?_
        rotate_left
        · intro wy hSw; (try dsimp only at hSw); obtain ⟨b0, b1⟩ := hSw.cell 0 rfl; obtain ⟨b2, b3⟩ := hSw.cell 1 rfl; obtain ⟨b4, b5⟩ := hSw.cell 2 rfl; go_simp; (try with_reducible rfl)
        try simp only [Act.put, List.setIfInBounds_toArray, List.set_cons_zero, List.set_cons_succ]
        refine line_skip (i := 37) (by simp only [List.getElem?_toArray, List.getElem?_cons_succ, List.getElem?_cons_zero]; rfl) (by kernel_rfl) (by kernel_rfl) (by rfl) ?_
        try simp only [Act.put, List.setIfInBounds_toArray, List.set_cons_zero, List.set_cons_succ]
        refine line_skip (i := 38) (by simp only [List.getElem?_toArray, List.getElem?_cons_succ, List.getElem?_cons_zero]; rfl) (by kernel_rfl) (by kernel_rfl) (by rfl) ?_
        try simp only [Act.put, List.setIfInBounds_toArray, List.set_cons_zero, List.set_cons_succ]
        refine line_skip (i := 39) (by simp only [List.getElem?_toArray, List.getElem?_cons_succ, List.getElem?_cons_zero]; rfl) (by kernel_rfl) (by kernel_rfl) (by rfl) ?_
        try simp only [Act.put, List.setIfInBounds_toArray, List.set_cons_zero, List.set_cons_succ]
        refine line_take (i := 40) (v := ?_) (by simp only [List.getElem?_toArray, List.getElem?_cons_succ, List.getElem?_cons_zero]; rfl) (by kernel_rfl) (by kernel_rfl) (by rfl) ?_ ?_
        rotate_left
        · intro wy hSw; (try dsimp only at hSw); obtain ⟨b0, b1⟩ := hSw.cell 0 rfl; obtain ⟨b2, b3⟩ := hSw.cell 1 rfl; obtain ⟨b4, b5⟩ := hSw.cell 2 rfl; go_simp; (try with_reducible rfl)
        try simp only [Act.put, List.setIfInBounds_toArray, List.set_cons_zero, List.set_cons_succ]
        refine line_take (i := 41) (v := ?_) (by simp only [List.getElem?_toArray, List.getElem?_cons_succ, List.getElem?_cons_zero]; rfl) (by kernel_rfl) (by kernel_rfl) (by rfl) ?_ ?_
        rotate_left
        · intro wy hSw; (try dsimp only at hSw); obtain ⟨b0, b1⟩ := hSw.cell 0 rfl; obtain ⟨b2, b3⟩ := hSw.cell 1 rfl; obtain ⟨b4, b5⟩ := hSw.cell 2 rfl; go_simp; (try with_reducible rfl)
        try simp only [Act.put, List.setIfInBounds_toArray, List.set_cons_zero, List.set_cons_succ]
        refine line_take (i := 42) (v := ?_) (by simp only [List.getElem?_toArray, List.getElem?_cons_succ, List.getElem?_cons_zero]; rfl) (by kernel_rfl) (by kernel_rfl) (by rfl) ?_ ?_
        rotate_left
        · intro wy hSw; (try dsimp only at hSw); obtain ⟨b0, b1⟩ := hSw.cell 0 rfl; obtain ⟨b2, b3⟩ := hSw.cell 1 rfl; obtain ⟨b4, b5⟩ := hSw.cell 2 rfl; go_simp; (try with_reducible rfl)
        try simp only [Act.put, List.setIfInBounds_toArray, List.set_cons_zero, List.set_cons_succ]
        refine line_take (i := 43) (v := ?_) (by simp only [List.getElem?_toArray, List.getElem?_cons_succ, List.getElem?_cons_zero]; rfl) (by kernel_rfl) (by kernel_rfl) (by rfl) ?_ ?_
        rotate_left
        · intro wy hSw; (try dsimp only at hSw); obtain ⟨b0, b1⟩ := hSw.cell 0 rfl; obtain ⟨b2, b3⟩ := hSw.cell 1 rfl; obtain ⟨b4, b5⟩ := hSw.cell 2 rfl; go_simp; (try with_reducible rfl)
        try simp only [Act.put, List.setIfInBounds_toArray, List.set_cons_zero, List.set_cons_succ]
        refine line_take (i := 44) (v := ?_) (by simp only [List.getElem?_toArray, List.getElem?_cons_succ, List.getElem?_cons_zero]; rfl) (by kernel_rfl) (by kernel_rfl) (by rfl) ?_ ?_
        rotate_left
        · intro wy hSw; (try dsimp only at hSw); obtain ⟨b0, b1⟩ := hSw.cell 0 rfl; obtain ⟨b2, b3⟩ := hSw.cell 1 rfl; obtain ⟨b4, b5⟩ := hSw.cell 2 rfl; go_simp; (try with_reducible rfl)
        try simp only [Act.put, List.setIfInBounds_toArray, List.set_cons_zero, List.set_cons_succ]
        refine line_call (i := 45) (v := ?_) ?_ ?_ (by simp only [List.getElem?_toArray, List.getElem?_cons_succ, List.getElem?_cons_zero]; rfl) (by kernel_rfl) (by kernel_rfl) (by rfl) ?hc28 ?hv28 ?hn28
        case hv28 => intro wy hSw; go_simp; (try first | with_reducible rfl | (constructor <;> with_reducible rfl))
        case hc28 => intro wy hSw; (try dsimp only at hSw); refine Calls.mono (by with_reducible exact (HI1.out _ hSw.fact (hSw.list 1 rfl) (hSw.list 0 rfl))) ?_; rintro e9 wq ⟨rfl, hb⟩; refine ⟨?_, hSw.below hb⟩; with_reducible rfl
        try simp only [Act.put, List.setIfInBounds_toArray, List.set_cons_zero, List.set_cons_succ]
        refine line_take (i := 46) (v := ?_) (by simp only [List.getElem?_toArray, List.getElem?_cons_succ, List.getElem?_cons_zero]; rfl) (by kernel_rfl) (by kernel_rfl) (by rfl) ?_ ?_
        rotate_left
        · intro wy hSw; (try dsimp only at hSw); obtain ⟨b0, b1⟩ := hSw.cell 0 rfl; obtain ⟨b2, b3⟩ := hSw.cell 1 rfl; obtain ⟨b4, b5⟩ := hSw.cell 2 rfl; go_simp; (try with_reducible rfl)
        try simp only [Act.put, List.setIfInBounds_toArray, List.set_cons_zero, List.set_cons_succ]
        refine line_take (i := 47) (v := ?_) (by simp only [List.getElem?_toArray, List.getElem?_cons_succ, List.getElem?_cons_zero]; rfl) (by kernel_rfl) (by kernel_rfl) (by rfl) ?_ ?_
        rotate_left
        · intro wy hSw; (try dsimp only at hSw); obtain ⟨b0, b1⟩ := hSw.cell 0 rfl; obtain ⟨b2, b3⟩ := hSw.cell 1 rfl; obtain ⟨b4, b5⟩ := hSw.cell 2 rfl; go_simp; (try with_reducible rfl)
        try simp only [Act.put, List.setIfInBounds_toArray, List.set_cons_zero, List.set_cons_succ]
        refine line_call (i := 48) (v := ?_) ?_ ?_ (by simp only [List.getElem?_toArray, List.getElem?_cons_succ, List.getElem?_cons_zero]; rfl) (by kernel_rfl) (by kernel_rfl) (by rfl) ?hc29 ?hv29 ?hn29
        case hv29 => intro wy hSw; go_simp; (try first | with_reducible rfl | (constructor <;> with_reducible rfl))
        case hc29 => intro wy hSw; (try dsimp only at hSw); refine Calls.mono (by with_reducible exact (HI2.out _ (hSw.list 1 rfl) (hSw.list 0 rfl))) ?_; rintro e9 wq ⟨rfl, hb⟩; refine ⟨?_, hSw.below hb⟩; with_reducible rfl
        try simp only [Act.put, List.setIfInBounds_toArray, List.set_cons_zero, List.set_cons_succ]
        refine line_take (i := 49) (v := ?_) (by simp only [List.getElem?_toArray, List.getElem?_cons_succ, List.getElem?_cons_zero]; rfl) (by kernel_rfl) (by kernel_rfl) (by rfl) ?_ ?_
        rotate_left
        · intro wy hSw; (try dsimp only at hSw); obtain ⟨b0, b1⟩ := hSw.cell 0 rfl; obtain ⟨b2, b3⟩ := hSw.cell 1 rfl; obtain ⟨b4, b5⟩ := hSw.cell 2 rfl; go_simp; (try with_reducible rfl)
        try simp only [Act.put, List.setIfInBounds_toArray, List.set_cons_zero, List.set_cons_succ]
        refine line_take (i := 50) (v := ?_) (by simp only [List.getElem?_toArray, List.getElem?_cons_succ, List.getElem?_cons_zero]; rfl) (by kernel_rfl) (by kernel_rfl) (by rfl) ?_ ?_
        rotate_left
        · intro wy hSw; (try dsimp only at hSw); obtain ⟨b0, b1⟩ := hSw.cell 0 rfl; obtain ⟨b2, b3⟩ := hSw.cell 1 rfl; obtain ⟨b4, b5⟩ := hSw.cell 2 rfl; go_simp; (try with_reducible rfl)
        try simp only [Act.put, List.setIfInBounds_toArray, List.set_cons_zero, List.set_cons_succ]
        refine line_take (i := 51) (v := ?_) (by simp only [List.getElem?_toArray, List.getElem?_cons_succ, List.getElem?_cons_zero]; rfl) (by kernel_rfl) (by kernel_rfl) (by rfl) ?_ ?_
        rotate_left
        · intro wy hSw; (try dsimp only at hSw); obtain ⟨b0, b1⟩ := hSw.cell 0 rfl; obtain ⟨b2, b3⟩ := hSw.cell 1 rfl; obtain ⟨b4, b5⟩ := hSw.cell 2 rfl; go_simp; (try with_reducible rfl)
        try simp only [Act.put, List.setIfInBounds_toArray, List.set_cons_zero, List.set_cons_succ]
        refine line_take (i := 52) (v := ?_) (by simp only [List.getElem?_toArray, List.getElem?_cons_succ, List.getElem?_cons_zero]; rfl) (by kernel_rfl) (by kernel_rfl) (by rfl) ?_ ?_
        rotate_left
        · intro wy hSw; (try dsimp only at hSw); obtain ⟨b0, b1⟩ := hSw.cell 0 rfl; obtain ⟨b2, b3⟩ := hSw.cell 1 rfl; obtain ⟨b4, b5⟩ := hSw.cell 2 rfl; go_simp; (try with_reducible rfl)
        try simp only [Act.put, List.setIfInBounds_toArray, List.set_cons_zero, List.set_cons_succ]
        refine line_take (i := 53) (v := ?_) (by simp only [List.getElem?_toArray, List.getElem?_cons_succ, List.getElem?_cons_zero]; rfl) (by kernel_rfl) (by kernel_rfl) (by rfl) ?_ ?_
        rotate_left
        · intro wy hSw; (try dsimp only at hSw); obtain ⟨b0, b1⟩ := hSw.cell 0 rfl; obtain ⟨b2, b3⟩ := hSw.cell 1 rfl; obtain ⟨b4, b5⟩ := hSw.cell 2 rfl; go_simp; (try with_reducible rfl)
        try simp only [Act.put, List.setIfInBounds_toArray, List.set_cons_zero, List.set_cons_succ]
        refine line_take (i := 54) (v := ?_) (by simp only [List.getElem?_toArray, List.getElem?_cons_succ, List.getElem?_cons_zero]; rfl) (by kernel_rfl) (by kernel_rfl) (by rfl) ?_ ?_
        rotate_left
        · intro wy hSw; (try dsimp only at hSw); obtain ⟨b0, b1⟩ := hSw.cell 0 rfl; obtain ⟨b2, b3⟩ := hSw.cell 1 rfl; obtain ⟨b4, b5⟩ := hSw.cell 2 rfl; go_simp; (try with_reducible rfl)
        try simp only [Act.put, List.setIfInBounds_toArray, List.set_cons_zero, List.set_cons_succ]
        refine line_take (i := 55) (v := ?_) (by simp only [List.getElem?_toArray, List.getElem?_cons_succ, List.getElem?_cons_zero]; rfl) (by kernel_rfl) (by kernel_rfl) (by rfl) ?_ ?_
        rotate_left
        · intro wy hSw; (try dsimp only at hSw); obtain ⟨b0, b1⟩ := hSw.cell 0 rfl; obtain ⟨b2, b3⟩ := hSw.cell 1 rfl; obtain ⟨b4, b5⟩ := hSw.cell 2 rfl; go_simp; (try with_reducible rfl)
        try simp only [Act.put, List.setIfInBounds_toArray, List.set_cons_zero, List.set_cons_succ]
        refine line_take (i := 56) (v := ?_) (by simp only [List.getElem?_toArray, List.getElem?_cons_succ, List.getElem?_cons_zero]; rfl) (by kernel_rfl) (by kernel_rfl) (by rfl) ?_ ?_
        rotate_left
        · intro wy hSw; (try dsimp only at hSw); obtain ⟨b0, b1⟩ := hSw.cell 0 rfl; obtain ⟨b2, b3⟩ := hSw.cell 1 rfl; obtain ⟨b4, b5⟩ := hSw.cell 2 rfl; go_simp; (try with_reducible rfl)
        try simp only [Act.put, List.setIfInBounds_toArray, List.set_cons_zero, List.set_cons_succ]
        refine line_take (i := 57) (v := ?_) (by simp only [List.getElem?_toArray, List.getElem?_cons_succ, List.getElem?_cons_zero]; rfl) (by kernel_rfl) (by kernel_rfl) (by rfl) ?_ ?_
        rotate_left
        · intro wy hSw; (try dsimp only at hSw); obtain ⟨b0, b1⟩ := hSw.cell 0 rfl; obtain ⟨b2, b3⟩ := hSw.cell 1 rfl; obtain ⟨b4, b5⟩ := hSw.cell 2 rfl; go_simp; (try with_reducible rfl)
        try simp only [Act.put, List.setIfInBounds_toArray, List.set_cons_zero, List.set_cons_succ]
        refine line_take (i := 58) (v := ?_) (by simp only [List.getElem?_toArray, List.getElem?_cons_succ, List.getElem?_cons_zero]; rfl) (by kernel_rfl) (by kernel_rfl) (by rfl) ?_ ?_
        rotate_left
        · intro wy hSw; (try dsimp only at hSw); obtain ⟨b0, b1⟩ := hSw.cell 0 rfl; obtain ⟨b2, b3⟩ := hSw.cell 1 rfl; obtain ⟨b4, b5⟩ := hSw.cell 2 rfl; go_simp; (try with_reducible rfl)
        try simp only [Act.put, List.setIfInBounds_toArray, List.set_cons_zero, List.set_cons_succ]
        refine line_take (i := 59) (v := ?_) (by simp only [List.getElem?_toArray, List.getElem?_cons_succ, List.getElem?_cons_zero]; rfl) (by kernel_rfl) (by kernel_rfl) (by rfl) ?_ ?_
        rotate_left
        · intro wy hSw; (try dsimp only at hSw); obtain ⟨b0, b1⟩ := hSw.cell 0 rfl; obtain ⟨b2, b3⟩ := hSw.cell 1 rfl; obtain ⟨b4, b5⟩ := hSw.cell 2 rfl; go_simp; (try with_reducible rfl)
        try simp only [Act.put, List.setIfInBounds_toArray, List.set_cons_zero, List.set_cons_succ]
        refine line_take (i := 60) (v := ?_) (by simp only [List.getElem?_toArray, List.getElem?_cons_succ, List.getElem?_cons_zero]; rfl) (by kernel_rfl) (by kernel_rfl) (by rfl) ?_ ?_
        rotate_left
        · intro wy hSw; (try dsimp only at hSw); obtain ⟨b0, b1⟩ := hSw.cell 0 rfl; obtain ⟨b2, b3⟩ := hSw.cell 1 rfl; obtain ⟨b4, b5⟩ := hSw.cell 2 rfl; go_simp; (try with_reducible rfl)
        try simp only [Act.put, List.setIfInBounds_toArray, List.set_cons_zero, List.set_cons_succ]
        refine line_take (i := 61) (v := ?_) (by simp only [List.getElem?_toArray, List.getElem?_cons_succ, List.getElem?_cons_zero]; rfl) (by kernel_rfl) (by kernel_rfl) (by rfl) ?_ ?_
        rotate_left
        · intro wy hSw; (try dsimp only at hSw); obtain ⟨b0, b1⟩ := hSw.cell 0 rfl; obtain ⟨b2, b3⟩ := hSw.cell 1 rfl; obtain ⟨b4, b5⟩ := hSw.cell 2 rfl; go_simp; (try with_reducible rfl)
        try simp only [Act.put, List.setIfInBounds_toArray, List.set_cons_zero, List.set_cons_succ]
        refine line_take (i := 62) (v := ?_) (by simp only [List.getElem?_toArray, List.getElem?_cons_succ, List.getElem?_cons_zero]; rfl) (by kernel_rfl) (by kernel_rfl) (by rfl) ?_ ?_
        rotate_left
        · intro wy hSw; (try dsimp only at hSw); obtain ⟨b0, b1⟩ := hSw.cell 0 rfl; obtain ⟨b2, b3⟩ := hSw.cell 1 rfl; obtain ⟨b4, b5⟩ := hSw.cell 2 rfl; go_simp; (try with_reducible rfl)
        try simp only [Act.put, List.setIfInBounds_toArray, List.set_cons_zero, List.set_cons_succ]
        refine line_take (i := 63) (v := ?_) (by simp only [List.getElem?_toArray, List.getElem?_cons_succ, List.getElem?_cons_zero]; rfl) (by kernel_rfl) (by kernel_rfl) (by rfl) ?_ ?_
        rotate_left
        · intro wy hSw; (try dsimp only at hSw); obtain ⟨b0, b1⟩ := hSw.cell 0 rfl; obtain ⟨b2, b3⟩ := hSw.cell 1 rfl; obtain ⟨b4, b5⟩ := hSw.cell 2 rfl; go_simp; (try with_reducible rfl)
        try simp only [Act.put, List.setIfInBounds_toArray, List.set_cons_zero, List.set_cons_succ]
        refine line_take (i := 64) (v := ?_) (by simp only [List.getElem?_toArray, List.getElem?_cons_succ, List.getElem?_cons_zero]; rfl) (by kernel_rfl) (by kernel_rfl) (by rfl) ?_ ?_
        rotate_left
        · intro wy hSw; (try dsimp only at hSw); obtain ⟨b0, b1⟩ := hSw.cell 0 rfl; obtain ⟨b2, b3⟩ := hSw.cell 1 rfl; obtain ⟨b4, b5⟩ := hSw.cell 2 rfl; go_simp; (try with_reducible rfl)
        try simp only [Act.put, List.setIfInBounds_toArray, List.set_cons_zero, List.set_cons_succ]
        refine line_take (i := 65) (v := ?_) (by simp only [List.getElem?_toArray, List.getElem?_cons_succ, List.getElem?_cons_zero]; rfl) (by kernel_rfl) (by kernel_rfl) (by rfl) ?_ ?_
        rotate_left
        · intro wy hSw; (try dsimp only at hSw); obtain ⟨b0, b1⟩ := hSw.cell 0 rfl; obtain ⟨b2, b3⟩ := hSw.cell 1 rfl; obtain ⟨b4, b5⟩ := hSw.cell 2 rfl; go_simp; (try with_reducible rfl)
        try simp only [Act.put, List.setIfInBounds_toArray, List.set_cons_zero, List.set_cons_succ]
        refine line_take (i := 66) (v := ?_) (by simp only [List.getElem?_toArray, List.getElem?_cons_succ, List.getElem?_cons_zero]; rfl) (by kernel_rfl) (by kernel_rfl) (by rfl) ?_ ?_
        rotate_left
        · intro wy hSw; (try dsimp only at hSw); obtain ⟨b0, b1⟩ := hSw.cell 0 rfl; obtain ⟨b2, b3⟩ := hSw.cell 1 rfl; obtain ⟨b4, b5⟩ := hSw.cell 2 rfl; go_simp; (try with_reducible rfl)
        try simp only [Act.put, List.setIfInBounds_toArray, List.set_cons_zero, List.set_cons_succ]
        refine line_take (i := 67) (v := ?_) (by simp only [List.getElem?_toArray, List.getElem?_cons_succ, List.getElem?_cons_zero]; rfl) (by kernel_rfl) (by kernel_rfl) (by rfl) ?_ ?_
        rotate_left
        · intro wy hSw; (try dsimp only at hSw); obtain ⟨b0, b1⟩ := hSw.cell 0 rfl; obtain ⟨b2, b3⟩ := hSw.cell 1 rfl; obtain ⟨b4, b5⟩ := hSw.cell 2 rfl; go_simp; (try with_reducible rfl)
        try simp only [Act.put, List.setIfInBounds_toArray, List.set_cons_zero, List.set_cons_succ]
        refine line_take (i := 68) (v := ?_) (by simp only [List.getElem?_toArray, List.getElem?_cons_succ, List.getElem?_cons_zero]; rfl) (by kernel_rfl) (by kernel_rfl) (by rfl) ?_ ?_
        rotate_left
        · intro wy hSw; (try dsimp only at hSw); obtain ⟨b0, b1⟩ := hSw.cell 0 rfl; obtain ⟨b2, b3⟩ := hSw.cell 1 rfl; obtain ⟨b4, b5⟩ := hSw.cell 2 rfl; go_simp; (try with_reducible rfl)
        try simp only [Act.put, List.setIfInBounds_toArray, List.set_cons_zero, List.set_cons_succ]
        refine line_take (i := 69) (v := ?_) (by simp only [List.getElem?_toArray, List.getElem?_cons_succ, List.getElem?_cons_zero]; rfl) (by kernel_rfl) (by kernel_rfl) (by rfl) ?_ ?_
        rotate_left
        · intro wy hSw; (try dsimp only at hSw); obtain ⟨b0, b1⟩ := hSw.cell 0 rfl; obtain ⟨b2, b3⟩ := hSw.cell 1 rfl; obtain ⟨b4, b5⟩ := hSw.cell 2 rfl; go_simp; (try with_reducible rfl)
        try simp only [Act.put, List.setIfInBounds_toArray, List.set_cons_zero, List.set_cons_succ]
        refine line_take (i := 70) (v := ?_) (by simp only [List.getElem?_toArray, List.getElem?_cons_succ, List.getElem?_cons_zero]; rfl) (by kernel_rfl) (by kernel_rfl) (by rfl) ?_ ?_
        rotate_left
        · intro wy hSw; (try dsimp only at hSw); obtain ⟨b0, b1⟩ := hSw.cell 0 rfl; obtain ⟨b2, b3⟩ := hSw.cell 1 rfl; obtain ⟨b4, b5⟩ := hSw.cell 2 rfl; go_simp; (try with_reducible rfl)
        try simp only [Act.put, List.setIfInBounds_toArray, List.set_cons_zero, List.set_cons_succ]
        refine line_take (i := 71) (v := ?_) (by simp only [List.getElem?_toArray, List.getElem?_cons_succ, List.getElem?_cons_zero]; rfl) (by kernel_rfl) (by kernel_rfl) (by rfl) ?_ ?_
        rotate_left
        · intro wy hSw; (try dsimp only at hSw); obtain ⟨b0, b1⟩ := hSw.cell 0 rfl; obtain ⟨b2, b3⟩ := hSw.cell 1 rfl; obtain ⟨b4, b5⟩ := hSw.cell 2 rfl; go_simp; (try with_reducible rfl)
        try simp only [Act.put, List.setIfInBounds_toArray, List.set_cons_zero, List.set_cons_succ]
        refine Line.done (by kernel_rfl) ?_
        intro wf hSf
        have hbf := hSf.base
        clear hSf HR13
        go_wp2
        go_ret
        exact ⟨rfl, hbf⟩
  · have HBW := Lib.hid (fun W E k (h0 : T W) (h1 : Ints W W.heap.size Ag f2) (h2 : Ints W W.heap.size E o) => HBL.out W E o k h0 h1 h2 (by have := HOL.out; omega))
    rw [HRF.out rfl] at HBW
    clear HRF HBL
    cases five
    · clear HCF HVA HTO
      as_aux_lemma =>
        refine wp_region_line (S := (fun W => Kc T w W [(t7.heap.size, n3, .slice Ah f3.length ch), (t4.heap.size, n2, .slice Ag f2.length cg), (t1.heap.size, n, .slice Af f.length cf)] [(D5, y), (Ah, f3), (V4, o), (V3, o), (Ag, f2), (V2, r), (V1, r), (Af, f)])) (by kernel_rfl) (by kernel_rfl) ?_ ?_
        · exact HR13.out.drew
        refine line_take (i := 0) (v := ?_) (by simp only [List.getElem?_toArray, List.getElem?_cons_succ, List.getElem?_cons_zero]; rfl) (by kernel_rfl) (by kernel_rfl) (by rfl) ?_ ?_
        rotate_left
        · intro wy hSw; (try dsimp only at hSw); obtain ⟨b0, b1⟩ := hSw.cell 0 rfl; obtain ⟨b2, b3⟩ := hSw.cell 1 rfl; obtain ⟨b4, b5⟩ := hSw.cell 2 rfl; go_simp; (try with_reducible rfl)
        try simp only [Act.put, List.setIfInBounds_toArray, List.set_cons_zero, List.set_cons_succ]
        refine line_take (i := 1) (v := ?_) (by simp only [List.getElem?_toArray, List.getElem?_cons_succ, List.getElem?_cons_zero]; rfl) (by kernel_rfl) (by kernel_rfl) (by rfl) ?_ ?_
        rotate_left
        · intro wy hSw; (try dsimp only at hSw); obtain ⟨b0, b1⟩ := hSw.cell 0 rfl; obtain ⟨b2, b3⟩ := hSw.cell 1 rfl; obtain ⟨b4, b5⟩ := hSw.cell 2 rfl; go_simp; (try with_reducible rfl)
        try simp only [Act.put, List.setIfInBounds_toArray, List.set_cons_zero, List.set_cons_succ]
        refine line_take (i := 2) (v := ?_) (by simp only [List.getElem?_toArray, List.getElem?_cons_succ, List.getElem?_cons_zero]; rfl) (by kernel_rfl) (by kernel_rfl) (by rfl) ?_ ?_
        rotate_left
        · intro wy hSw; (try dsimp only at hSw); obtain ⟨b0, b1⟩ := hSw.cell 0 rfl; obtain ⟨b2, b3⟩ := hSw.cell 1 rfl; obtain ⟨b4, b5⟩ := hSw.cell 2 rfl; go_simp; (try with_reducible rfl)
        try simp only [Act.put, List.setIfInBounds_toArray, List.set_cons_zero, List.set_cons_succ]
        refine line_take (i := 3) (v := ?_) (by simp only [List.getElem?_toArray, List.getElem?_cons_succ, List.getElem?_cons_zero]; rfl) (by kernel_rfl) (by kernel_rfl) (by rfl) ?_ ?_
        rotate_left
        · intro wy hSw; (try dsimp only at hSw); obtain ⟨b0, b1⟩ := hSw.cell 0 rfl; obtain ⟨b2, b3⟩ := hSw.cell 1 rfl; obtain ⟨b4, b5⟩ := hSw.cell 2 rfl; go_simp; (try with_reducible rfl)
        try simp only [Act.put, List.setIfInBounds_toArray, List.set_cons_zero, List.set_cons_succ]
        refine line_take (i := 4) (v := ?_) (by simp only [List.getElem?_toArray, List.getElem?_cons_succ, List.getElem?_cons_zero]; rfl) (by kernel_rfl) (by kernel_rfl) (by rfl) ?_ ?_
        rotate_left
        · intro wy hSw; (try dsimp only at hSw); obtain ⟨b0, b1⟩ := hSw.cell 0 rfl; obtain ⟨b2, b3⟩ := hSw.cell 1 rfl; obtain ⟨b4, b5⟩ := hSw.cell 2 rfl; go_simp; (try with_reducible rfl)
        try simp only [Act.put, List.setIfInBounds_toArray, List.set_cons_zero, List.set_cons_succ]
        refine line_take (i := 5) (v := ?_) (by simp only [List.getElem?_toArray, List.getElem?_cons_succ, List.getElem?_cons_zero]; rfl) (by kernel_rfl) (by kernel_rfl) (by rfl) ?_ ?_
        rotate_left
        · intro wy hSw; (try dsimp only at hSw); obtain ⟨b0, b1⟩ := hSw.cell 0 rfl; obtain ⟨b2, b3⟩ := hSw.cell 1 rfl; obtain ⟨b4, b5⟩ := hSw.cell 2 rfl; go_simp; (try with_reducible rfl)
        try simp only [Act.put, List.setIfInBounds_toArray, List.set_cons_zero, List.set_cons_succ]
        refine line_call (i := 6) (v := ?_) ?_ ?_ (by simp only [List.getElem?_toArray, List.getElem?_cons_succ, List.getElem?_cons_zero]; rfl) (by kernel_rfl) (by kernel_rfl) (by rfl) ?hc30 ?hv30 ?hn30
        case hv30 => intro wy hSw; go_simp; (try first | with_reducible rfl | (constructor <;> with_reducible rfl))
        case hc30 => intro wy hSw; (try dsimp only at hSw); refine Calls.mono (by with_reducible exact (sameInts_same V1 V2 r k1 k2 _ (Lib.hid (hSw.list 6 rfl)) (Lib.hid (hSw.list 5 rfl)) (by have := HRL.out; omega))) ?_; rintro e9 wq ⟨rfl, q9, rfl⟩; refine ⟨?_, hSw.drewN q9⟩; with_reducible rfl
        try simp only [Act.put, List.setIfInBounds_toArray, List.set_cons_zero, List.set_cons_succ]
        refine line_take (i := 7) (v := ?_) (by simp only [List.getElem?_toArray, List.getElem?_cons_succ, List.getElem?_cons_zero]; rfl) (by kernel_rfl) (by kernel_rfl) (by rfl) ?_ ?_
        rotate_left
        · intro wy hSw; (try dsimp only at hSw); obtain ⟨b0, b1⟩ := hSw.cell 0 rfl; obtain ⟨b2, b3⟩ := hSw.cell 1 rfl; obtain ⟨b4, b5⟩ := hSw.cell 2 rfl; go_simp; (try with_reducible rfl)
        try simp only [Act.put, List.setIfInBounds_toArray, List.set_cons_zero, List.set_cons_succ]
        refine line_take (i := 8) (v := ?_) (by simp only [List.getElem?_toArray, List.getElem?_cons_succ, List.getElem?_cons_zero]; rfl) (by kernel_rfl) (by kernel_rfl) (by rfl) ?_ ?_
        rotate_left
        · intro wy hSw; (try dsimp only at hSw); obtain ⟨b0, b1⟩ := hSw.cell 0 rfl; obtain ⟨b2, b3⟩ := hSw.cell 1 rfl; obtain ⟨b4, b5⟩ := hSw.cell 2 rfl; go_simp; (try with_reducible rfl)
        try simp only [Act.put, List.setIfInBounds_toArray, List.set_cons_zero, List.set_cons_succ]
        refine line_take (i := 9) (v := ?_) (by simp only [List.getElem?_toArray, List.getElem?_cons_succ, List.getElem?_cons_zero]; rfl) (by kernel_rfl) (by kernel_rfl) (by rfl) ?_ ?_
        rotate_left
        · intro wy hSw; (try dsimp only at hSw); obtain ⟨b0, b1⟩ := hSw.cell 0 rfl; obtain ⟨b2, b3⟩ := hSw.cell 1 rfl; obtain ⟨b4, b5⟩ := hSw.cell 2 rfl; go_simp; (try with_reducible rfl)
        try simp only [Act.put, List.setIfInBounds_toArray, List.set_cons_zero, List.set_cons_succ]
        refine line_take (i := 10) (v := ?_) (by simp only [List.getElem?_toArray, List.getElem?_cons_succ, List.getElem?_cons_zero]; rfl) (by kernel_rfl) (by kernel_rfl) (by rfl) ?_ ?_
        rotate_left
        · intro wy hSw; (try dsimp only at hSw); obtain ⟨b0, b1⟩ := hSw.cell 0 rfl; obtain ⟨b2, b3⟩ := hSw.cell 1 rfl; obtain ⟨b4, b5⟩ := hSw.cell 2 rfl; go_simp; (try with_reducible rfl)
        try simp only [Act.put, List.setIfInBounds_toArray, List.set_cons_zero, List.set_cons_succ]
        refine line_take (i := 11) (v := ?_) (by simp only [List.getElem?_toArray, List.getElem?_cons_succ, List.getElem?_cons_zero]; rfl) (by kernel_rfl) (by kernel_rfl) (by rfl) ?_ ?_
        rotate_left
        · intro wy hSw; (try dsimp only at hSw); obtain ⟨b0, b1⟩ := hSw.cell 0 rfl; obtain ⟨b2, b3⟩ := hSw.cell 1 rfl; obtain ⟨b4, b5⟩ := hSw.cell 2 rfl; go_simp; (try with_reducible rfl)
        try simp only [Act.put, List.setIfInBounds_toArray, List.set_cons_zero, List.set_cons_succ]
        refine line_skip (i := 12) (by simp only [List.getElem?_toArray, List.getElem?_cons_succ, List.getElem?_cons_zero]; rfl) (by kernel_rfl) (by kernel_rfl) (by rfl) ?_
        try simp only [Act.put, List.setIfInBounds_toArray, List.set_cons_zero, List.set_cons_succ]
        refine line_skip (i := 13) (by simp only [List.getElem?_toArray, List.getElem?_cons_succ, List.getElem?_cons_zero]; rfl) (by kernel_rfl) (by kernel_rfl) (by rfl) ?_
        try simp only [Act.put, List.setIfInBounds_toArray, List.set_cons_zero, List.set_cons_succ]
        refine line_skip (i := 14) (by simp only [List.getElem?_toArray, List.getElem?_cons_succ, List.getElem?_cons_zero]; rfl) (by kernel_rfl) (by kernel_rfl) (by rfl) ?_
        try simp only [Act.put, List.setIfInBounds_toArray, List.set_cons_zero, List.set_cons_succ]
        refine line_skip (i := 15) (by simp only [List.getElem?_toArray, List.getElem?_cons_succ, List.getElem?_cons_zero]; rfl) (by kernel_rfl) (by kernel_rfl) (by rfl) ?_
        try simp only [Act.put, List.setIfInBounds_toArray, List.set_cons_zero, List.set_cons_succ]
        refine line_skip (i := 16) (by simp only [List.getElem?_toArray, List.getElem?_cons_succ, List.getElem?_cons_zero]; rfl) (by kernel_rfl) (by kernel_rfl) (by rfl) ?_
        try simp only [Act.put, List.setIfInBounds_toArray, List.set_cons_zero, List.set_cons_succ]
        refine line_skip (i := 17) (by simp only [List.getElem?_toArray, List.getElem?_cons_succ, List.getElem?_cons_zero]; rfl) (by kernel_rfl) (by kernel_rfl) (by rfl) ?_
        try simp only [Act.put, List.setIfInBounds_toArray, List.set_cons_zero, List.set_cons_succ]
        refine line_skip (i := 18) (by simp only [List.getElem?_toArray, List.getElem?_cons_succ, List.getElem?_cons_zero]; rfl) (by kernel_rfl) (by kernel_rfl) (by rfl) ?_
        try simp only [Act.put, List.setIfInBounds_toArray, List.set_cons_zero, List.set_cons_succ]
        refine line_skip (i := 19) (by simp only [List.getElem?_toArray, List.getElem?_cons_succ, List.getElem?_cons_zero]; rfl) (by kernel_rfl) (by kernel_rfl) (by rfl) ?_
        try simp only [Act.put, List.setIfInBounds_toArray, List.set_cons_zero, List.set_cons_succ]
        refine line_skip (i := 20) (by simp only [List.getElem?_toArray, List.getElem?_cons_succ, List.getElem?_cons_zero]; rfl) (by kernel_rfl) (by kernel_rfl) (by rfl) ?_
        try simp only [Act.put, List.setIfInBounds_toArray, List.set_cons_zero, List.set_cons_succ]
        refine line_take (i := 21) (v := ?_) (by simp only [List.getElem?_toArray, List.getElem?_cons_succ, List.getElem?_cons_zero]; rfl) (by kernel_rfl) (by kernel_rfl) (by rfl) ?_ ?_
        rotate_left
        · intro wy hSw; (try dsimp only at hSw); obtain ⟨b0, b1⟩ := hSw.cell 0 rfl; obtain ⟨b2, b3⟩ := hSw.cell 1 rfl; obtain ⟨b4, b5⟩ := hSw.cell 2 rfl; go_simp; (try with_reducible rfl)
        try simp only [Act.put, List.setIfInBounds_toArray, List.set_cons_zero, List.set_cons_succ]
        refine line_take (i := 22) (v := ?_) (by simp only [List.getElem?_toArray, List.getElem?_cons_succ, List.getElem?_cons_zero]; rfl) (by kernel_rfl) (by kernel_rfl) (by rfl) ?_ ?_
        rotate_left
        · intro wy hSw; (try dsimp only at hSw); obtain ⟨b0, b1⟩ := hSw.cell 0 rfl; obtain ⟨b2, b3⟩ := hSw.cell 1 rfl; obtain ⟨b4, b5⟩ := hSw.cell 2 rfl; go_simp; (try with_reducible rfl)
        try simp only [Act.put, List.setIfInBounds_toArray, List.set_cons_zero, List.set_cons_succ]
        refine line_take (i := 23) (v := ?_) (by simp only [List.getElem?_toArray, List.getElem?_cons_succ, List.getElem?_cons_zero]; rfl) (by kernel_rfl) (by kernel_rfl) (by rfl) ?_ ?_
        rotate_left
        · intro wy hSw; (try dsimp only at hSw); obtain ⟨b0, b1⟩ := hSw.cell 0 rfl; obtain ⟨b2, b3⟩ := hSw.cell 1 rfl; obtain ⟨b4, b5⟩ := hSw.cell 2 rfl; go_simp; (try with_reducible rfl)
        try simp only [Act.put, List.setIfInBounds_toArray, List.set_cons_zero, List.set_cons_succ]
        refine line_take (i := 24) (v := ?_) (by simp only [List.getElem?_toArray, List.getElem?_cons_succ, List.getElem?_cons_zero]; rfl) (by kernel_rfl) (by kernel_rfl) (by rfl) ?_ ?_
        rotate_left
        · intro wy hSw; (try dsimp only at hSw); obtain ⟨b0, b1⟩ := hSw.cell 0 rfl; obtain ⟨b2, b3⟩ := hSw.cell 1 rfl; obtain ⟨b4, b5⟩ := hSw.cell 2 rfl; go_simp; (try with_reducible rfl)
        try simp only [Act.put, List.setIfInBounds_toArray, List.set_cons_zero, List.set_cons_succ]
        refine line_take (i := 25) (v := ?_) (by simp only [List.getElem?_toArray, List.getElem?_cons_succ, List.getElem?_cons_zero]; rfl) (by kernel_rfl) (by kernel_rfl) (by rfl) ?_ ?_
        rotate_left
        · intro wy hSw; (try dsimp only at hSw); obtain ⟨b0, b1⟩ := hSw.cell 0 rfl; obtain ⟨b2, b3⟩ := hSw.cell 1 rfl; obtain ⟨b4, b5⟩ := hSw.cell 2 rfl; go_simp; (try with_reducible rfl)
        try simp only [Act.put, List.setIfInBounds_toArray, List.set_cons_zero, List.set_cons_succ]
        refine line_take (i := 26) (v := ?_) (by simp only [List.getElem?_toArray, List.getElem?_cons_succ, List.getElem?_cons_zero]; rfl) (by kernel_rfl) (by kernel_rfl) (by rfl) ?_ ?_
        rotate_left
        · intro wy hSw; (try dsimp only at hSw); obtain ⟨b0, b1⟩ := hSw.cell 0 rfl; obtain ⟨b2, b3⟩ := hSw.cell 1 rfl; obtain ⟨b4, b5⟩ := hSw.cell 2 rfl; go_simp; (try with_reducible rfl)
        try simp only [Act.put, List.setIfInBounds_toArray, List.set_cons_zero, List.set_cons_succ]
        refine line_take (i := 27) (v := ?_) (by simp only [List.getElem?_toArray, List.getElem?_cons_succ, List.getElem?_cons_zero]; rfl) (by kernel_rfl) (by kernel_rfl) (by rfl) ?_ ?_
        rotate_left
        · intro wy hSw; (try dsimp only at hSw); obtain ⟨b0, b1⟩ := hSw.cell 0 rfl; obtain ⟨b2, b3⟩ := hSw.cell 1 rfl; obtain ⟨b4, b5⟩ := hSw.cell 2 rfl; go_simp; (try with_reducible rfl)
        try simp only [Act.put, List.setIfInBounds_toArray, List.set_cons_zero, List.set_cons_succ]
        refine line_take (i := 28) (v := ?_) (by simp only [List.getElem?_toArray, List.getElem?_cons_succ, List.getElem?_cons_zero]; rfl) (by kernel_rfl) (by kernel_rfl) (by rfl) ?_ ?_
        rotate_left
        · intro wy hSw; (try dsimp only at hSw); obtain ⟨b0, b1⟩ := hSw.cell 0 rfl; obtain ⟨b2, b3⟩ := hSw.cell 1 rfl; obtain ⟨b4, b5⟩ := hSw.cell 2 rfl; go_simp; (try with_reducible rfl)
        try simp only [Act.put, List.setIfInBounds_toArray, List.set_cons_zero, List.set_cons_succ]
        refine line_take (i := 29) (v := ?_) (by simp only [List.getElem?_toArray, List.getElem?_cons_succ, List.getElem?_cons_zero]; rfl) (by kernel_rfl) (by kernel_rfl) (by rfl) ?_ ?_
        rotate_left
        · intro wy hSw; (try dsimp only at hSw); obtain ⟨b0, b1⟩ := hSw.cell 0 rfl; obtain ⟨b2, b3⟩ := hSw.cell 1 rfl; obtain ⟨b4, b5⟩ := hSw.cell 2 rfl; go_simp; (try with_reducible rfl)
        try simp only [Act.put, List.setIfInBounds_toArray, List.set_cons_zero, List.set_cons_succ]
        refine line_take (i := 30) (v := ?_) (by simp only [List.getElem?_toArray, List.getElem?_cons_succ, List.getElem?_cons_zero]; rfl) (by kernel_rfl) (by kernel_rfl) (by rfl) ?_ ?_
        rotate_left
        · intro wy hSw; (try dsimp only at hSw); obtain ⟨b0, b1⟩ := hSw.cell 0 rfl; obtain ⟨b2, b3⟩ := hSw.cell 1 rfl; obtain ⟨b4, b5⟩ := hSw.cell 2 rfl; go_simp; (try with_reducible rfl)
        try simp only [Act.put, List.setIfInBounds_toArray, List.set_cons_zero, List.set_cons_succ]
        refine line_call (i := 31) (v := ?_) ?_ ?_ (by simp only [List.getElem?_toArray, List.getElem?_cons_succ, List.getElem?_cons_zero]; rfl) (by kernel_rfl) (by kernel_rfl) (by rfl) ?hc31 ?hv31 ?hn31
        case hv31 => intro wy hSw; go_simp; (try first | with_reducible rfl | (constructor <;> with_reducible rfl))
        case hc31 => intro wy hSw; (try dsimp only at hSw); refine Calls.mono (by with_reducible exact (sameInts_same V3 V4 o k3 k4 _ (Lib.hid (hSw.list 3 rfl)) (Lib.hid (hSw.list 2 rfl)) (by have := HOL.out; omega))) ?_; rintro e9 wq ⟨rfl, q9, rfl⟩; refine ⟨?_, hSw.drewN q9⟩; with_reducible rfl
        try simp only [Act.put, List.setIfInBounds_toArray, List.set_cons_zero, List.set_cons_succ]
        refine line_take (i := 32) (v := ?_) (by simp only [List.getElem?_toArray, List.getElem?_cons_succ, List.getElem?_cons_zero]; rfl) (by kernel_rfl) (by kernel_rfl) (by rfl) ?_ ?_
        rotate_left
        · intro wy hSw; (try dsimp only at hSw); obtain ⟨b0, b1⟩ := hSw.cell 0 rfl; obtain ⟨b2, b3⟩ := hSw.cell 1 rfl; obtain ⟨b4, b5⟩ := hSw.cell 2 rfl; go_simp; (try with_reducible rfl)
        try simp only [Act.put, List.setIfInBounds_toArray, List.set_cons_zero, List.set_cons_succ]
        refine line_take (i := 33) (v := ?_) (by simp only [List.getElem?_toArray, List.getElem?_cons_succ, List.getElem?_cons_zero]; rfl) (by kernel_rfl) (by kernel_rfl) (by rfl) ?_ ?_
        rotate_left
        · intro wy hSw; (try dsimp only at hSw); obtain ⟨b0, b1⟩ := hSw.cell 0 rfl; obtain ⟨b2, b3⟩ := hSw.cell 1 rfl; obtain ⟨b4, b5⟩ := hSw.cell 2 rfl; go_simp; (try with_reducible rfl)
        try simp only [Act.put, List.setIfInBounds_toArray, List.set_cons_zero, List.set_cons_succ]
        refine line_take (i := 34) (v := ?_) (by simp only [List.getElem?_toArray, List.getElem?_cons_succ, List.getElem?_cons_zero]; rfl) (by kernel_rfl) (by kernel_rfl) (by rfl) ?_ ?_
        rotate_left
        · intro wy hSw; (try dsimp only at hSw); obtain ⟨b0, b1⟩ := hSw.cell 0 rfl; obtain ⟨b2, b3⟩ := hSw.cell 1 rfl; obtain ⟨b4, b5⟩ := hSw.cell 2 rfl; go_simp; (try with_reducible rfl)
        try simp only [Act.put, List.setIfInBounds_toArray, List.set_cons_zero, List.set_cons_succ]
        refine line_take (i := 35) (v := ?_) (by simp only [List.getElem?_toArray, List.getElem?_cons_succ, List.getElem?_cons_zero]; rfl) (by kernel_rfl) (by kernel_rfl) (by rfl) ?_ ?_
        rotate_left
        · intro wy hSw; (try dsimp only at hSw); obtain ⟨b0, b1⟩ := hSw.cell 0 rfl; obtain ⟨b2, b3⟩ := hSw.cell 1 rfl; obtain ⟨b4, b5⟩ := hSw.cell 2 rfl; go_simp; (try with_reducible rfl)
        try simp only [Act.put, List.setIfInBounds_toArray, List.set_cons_zero, List.set_cons_succ]
        refine line_take (i := 36) (v := ?_) (by simp only [List.getElem?_toArray, List.getElem?_cons_succ, List.getElem?_cons_zero]; rfl) (by kernel_rfl) (by kernel_rfl) (by rfl) ?_ ?_
        rotate_left
        · intro wy hSw; (try dsimp only at hSw); obtain ⟨b0, b1⟩ := hSw.cell 0 rfl; obtain ⟨b2, b3⟩ := hSw.cell 1 rfl; obtain ⟨b4, b5⟩ := hSw.cell 2 rfl; go_simp; (try with_reducible rfl)
        try simp only [Act.put, List.setIfInBounds_toArray, List.set_cons_zero, List.set_cons_succ]
        refine line_take (i := 37) (v := ?_) (by simp only [List.getElem?_toArray, List.getElem?_cons_succ, List.getElem?_cons_zero]; rfl) (by kernel_rfl) (by kernel_rfl) (by rfl) ?_ ?_
        rotate_left
        · intro wy hSw; (try dsimp only at hSw); obtain ⟨b0, b1⟩ := hSw.cell 0 rfl; obtain ⟨b2, b3⟩ := hSw.cell 1 rfl; obtain ⟨b4, b5⟩ := hSw.cell 2 rfl; go_simp; (try with_reducible rfl)
        try simp only [Act.put, List.setIfInBounds_toArray, List.set_cons_zero, List.set_cons_succ]
        refine line_take (i := 38) (v := ?_) (by simp only [List.getElem?_toArray, List.getElem?_cons_succ, List.getElem?_cons_zero]; rfl) (by kernel_rfl) (by kernel_rfl) (by rfl) ?_ ?_
        rotate_left
        · intro wy hSw; (try dsimp only at hSw); obtain ⟨b0, b1⟩ := hSw.cell 0 rfl; obtain ⟨b2, b3⟩ := hSw.cell 1 rfl; obtain ⟨b4, b5⟩ := hSw.cell 2 rfl; go_simp; (try with_reducible rfl)
        try simp only [Act.put, List.setIfInBounds_toArray, List.set_cons_zero, List.set_cons_succ]
        refine line_call (i := 39) (v := ?_) ?_ ?_ (by simp only [List.getElem?_toArray, List.getElem?_cons_succ, List.getElem?_cons_zero]; rfl) (by kernel_rfl) (by kernel_rfl) (by rfl) ?hc32 ?hv32 ?hn32
        case hv32 => intro wy hSw; go_simp; (try first | with_reducible rfl | (constructor <;> with_reducible rfl))
        case hc32 => intro wy hSw; (try dsimp only at hSw); refine Calls.mono (by with_reducible exact (HBW.out _ V4 k4 hSw.fact (hSw.list 4 rfl) (hSw.list 2 rfl))) ?_; rintro e9 wq ⟨rfl, hb⟩; refine ⟨?_, hSw.below hb⟩; with_reducible rfl
        try simp only [Act.put, List.setIfInBounds_toArray, List.set_cons_zero, List.set_cons_succ]
        refine line_take (i := 40) (v := ?_) (by simp only [List.getElem?_toArray, List.getElem?_cons_succ, List.getElem?_cons_zero]; rfl) (by kernel_rfl) (by kernel_rfl) (by rfl) ?_ ?_
        rotate_left
        · intro wy hSw; (try dsimp only at hSw); obtain ⟨b0, b1⟩ := hSw.cell 0 rfl; obtain ⟨b2, b3⟩ := hSw.cell 1 rfl; obtain ⟨b4, b5⟩ := hSw.cell 2 rfl; go_simp; (try with_reducible rfl)
        try simp only [Act.put, List.setIfInBounds_toArray, List.set_cons_zero, List.set_cons_succ]
        refine line_take (i := 41) (v := ?_) (by simp only [List.getElem?_toArray, List.getElem?_cons_succ, List.getElem?_cons_zero]; rfl) (by kernel_rfl) (by kernel_rfl) (by rfl) ?_ ?_
        rotate_left
        · intro wy hSw; (try dsimp only at hSw); obtain ⟨b0, b1⟩ := hSw.cell 0 rfl; obtain ⟨b2, b3⟩ := hSw.cell 1 rfl; obtain ⟨b4, b5⟩ := hSw.cell 2 rfl; go_simp; (try with_reducible rfl)
        try simp only [Act.put, List.setIfInBounds_toArray, List.set_cons_zero, List.set_cons_succ]
        refine line_take (i := 42) (v := ?_) (by simp only [List.getElem?_toArray, List.getElem?_cons_succ, List.getElem?_cons_zero]; rfl) (by kernel_rfl) (by kernel_rfl) (by rfl) ?_ ?_
        rotate_left
        · intro wy hSw; (try dsimp only at hSw); obtain ⟨b0, b1⟩ := hSw.cell 0 rfl; obtain ⟨b2, b3⟩ := hSw.cell 1 rfl; obtain ⟨b4, b5⟩ := hSw.cell 2 rfl; go_simp; (try with_reducible rfl)
        try simp only [Act.put, List.setIfInBounds_toArray, List.set_cons_zero, List.set_cons_succ]
        refine line_take (i := 43) (v := ?_) (by simp only [List.getElem?_toArray, List.getElem?_cons_succ, List.getElem?_cons_zero]; rfl) (by kernel_rfl) (by kernel_rfl) (by rfl) ?_ ?_
        rotate_left
        · intro wy hSw; (try dsimp only at hSw); obtain ⟨b0, b1⟩ := hSw.cell 0 rfl; obtain ⟨b2, b3⟩ := hSw.cell 1 rfl; obtain ⟨b4, b5⟩ := hSw.cell 2 rfl; go_simp; (try with_reducible rfl)
        try simp only [Act.put, List.setIfInBounds_toArray, List.set_cons_zero, List.set_cons_succ]
        refine line_take (i := 44) (v := ?_) (by simp only [List.getElem?_toArray, List.getElem?_cons_succ, List.getElem?_cons_zero]; rfl) (by kernel_rfl) (by kernel_rfl) (by rfl) ?_ ?_
        rotate_left
        · intro wy hSw; (try dsimp only at hSw); obtain ⟨b0, b1⟩ := hSw.cell 0 rfl; obtain ⟨b2, b3⟩ := hSw.cell 1 rfl; obtain ⟨b4, b5⟩ := hSw.cell 2 rfl; go_simp; (try with_reducible rfl)
        try simp only [Act.put, List.setIfInBounds_toArray, List.set_cons_zero, List.set_cons_succ]
        refine line_call (i := 45) (v := ?_) ?_ ?_ (by simp only [List.getElem?_toArray, List.getElem?_cons_succ, List.getElem?_cons_zero]; rfl) (by kernel_rfl) (by kernel_rfl) (by rfl) ?hc33 ?hv33 ?hn33
        case hv33 => intro wy hSw; go_simp; (try first | with_reducible rfl | (constructor <;> with_reducible rfl))
        case hc33 => intro wy hSw; (try dsimp only at hSw); refine Calls.mono (by with_reducible exact (HI1.out _ hSw.fact (hSw.list 1 rfl) (hSw.list 0 rfl))) ?_; rintro e9 wq ⟨rfl, hb⟩; refine ⟨?_, hSw.below hb⟩; with_reducible rfl
        try simp only [Act.put, List.setIfInBounds_toArray, List.set_cons_zero, List.set_cons_succ]
        refine line_take (i := 46) (v := ?_) (by simp only [List.getElem?_toArray, List.getElem?_cons_succ, List.getElem?_cons_zero]; rfl) (by kernel_rfl) (by kernel_rfl) (by rfl) ?_ ?_
        rotate_left
        · intro wy hSw; (try dsimp only at hSw); obtain ⟨b0, b1⟩ := hSw.cell 0 rfl; obtain ⟨b2, b3⟩ := hSw.cell 1 rfl; obtain ⟨b4, b5⟩ := hSw.cell 2 rfl; go_simp; (try with_reducible rfl)
        try simp only [Act.put, List.setIfInBounds_toArray, List.set_cons_zero, List.set_cons_succ]
        refine line_take (i := 47) (v := ?_) (by simp only [List.getElem?_toArray, List.getElem?_cons_succ, List.getElem?_cons_zero]; rfl) (by kernel_rfl) (by kernel_rfl) (by rfl) ?_ ?_
        rotate_left
        · intro wy hSw; (try dsimp only at hSw); obtain ⟨b0, b1⟩ := hSw.cell 0 rfl; obtain ⟨b2, b3⟩ := hSw.cell 1 rfl; obtain ⟨b4, b5⟩ := hSw.cell 2 rfl; go_simp; (try with_reducible rfl)
        try simp only [Act.put, List.setIfInBounds_toArray, List.set_cons_zero, List.set_cons_succ]
        refine line_call (i := 48) (v := ?_) ?_ ?_ (by simp only [List.getElem?_toArray, List.getElem?_cons_succ, List.getElem?_cons_zero]; rfl) (by kernel_rfl) (by kernel_rfl) (by rfl) ?hc34 ?hv34 ?hn34
        case hv34 => intro wy hSw; go_simp; (try first | with_reducible rfl | (constructor <;> with_reducible rfl))
        case hc34 => intro wy hSw; (try dsimp only at hSw); refine Calls.mono (by with_reducible exact (HI2.out _ (hSw.list 1 rfl) (hSw.list 0 rfl))) ?_; rintro e9 wq ⟨rfl, hb⟩; refine ⟨?_, hSw.below hb⟩; with_reducible rfl
        try simp only [Act.put, List.setIfInBounds_toArray, List.set_cons_zero, List.set_cons_succ]
        refine line_take (i := 49) (v := ?_) (by simp only [List.getElem?_toArray, List.getElem?_cons_succ, List.getElem?_cons_zero]; rfl) (by kernel_rfl) (by kernel_rfl) (by rfl) ?_ ?_
        rotate_left
        · intro wy hSw; (try dsimp only at hSw); obtain ⟨b0, b1⟩ := hSw.cell 0 rfl; obtain ⟨b2, b3⟩ := hSw.cell 1 rfl; obtain ⟨b4, b5⟩ := hSw.cell 2 rfl; go_simp; (try with_reducible rfl)
        try simp only [Act.put, List.setIfInBounds_toArray, List.set_cons_zero, List.set_cons_succ]
        refine line_take (i := 50) (v := ?_) (by simp only [List.getElem?_toArray, List.getElem?_cons_succ, List.getElem?_cons_zero]; rfl) (by kernel_rfl) (by kernel_rfl) (by rfl) ?_ ?_
        rotate_left
        · intro wy hSw; (try dsimp only at hSw); obtain ⟨b0, b1⟩ := hSw.cell 0 rfl; obtain ⟨b2, b3⟩ := hSw.cell 1 rfl; obtain ⟨b4, b5⟩ := hSw.cell 2 rfl; go_simp; (try with_reducible rfl)
        try simp only [Act.put, List.setIfInBounds_toArray, List.set_cons_zero, List.set_cons_succ]
        refine line_take (i := 51) (v := ?_) (by simp only [List.getElem?_toArray, List.getElem?_cons_succ, List.getElem?_cons_zero]; rfl) (by kernel_rfl) (by kernel_rfl) (by rfl) ?_ ?_
        rotate_left
        · intro wy hSw; (try dsimp only at hSw); obtain ⟨b0, b1⟩ := hSw.cell 0 rfl; obtain ⟨b2, b3⟩ := hSw.cell 1 rfl; obtain ⟨b4, b5⟩ := hSw.cell 2 rfl; go_simp; (try with_reducible rfl)
        try simp only [Act.put, List.setIfInBounds_toArray, List.set_cons_zero, List.set_cons_succ]
        refine line_take (i := 52) (v := ?_) (by simp only [List.getElem?_toArray, List.getElem?_cons_succ, List.getElem?_cons_zero]; rfl) (by kernel_rfl) (by kernel_rfl) (by rfl) ?_ ?_
        rotate_left
        · intro wy hSw; (try dsimp only at hSw); obtain ⟨b0, b1⟩ := hSw.cell 0 rfl; obtain ⟨b2, b3⟩ := hSw.cell 1 rfl; obtain ⟨b4, b5⟩ := hSw.cell 2 rfl; go_simp; (try with_reducible rfl)
        try simp only [Act.put, List.setIfInBounds_toArray, List.set_cons_zero, List.set_cons_succ]
        refine line_take (i := 53) (v := ?_) (by simp only [List.getElem?_toArray, List.getElem?_cons_succ, List.getElem?_cons_zero]; rfl) (by kernel_rfl) (by kernel_rfl) (by rfl) ?_ ?_
        rotate_left
        · intro wy hSw; (try dsimp only at hSw); obtain ⟨b0, b1⟩ := hSw.cell 0 rfl; obtain ⟨b2, b3⟩ := hSw.cell 1 rfl; obtain ⟨b4, b5⟩ := hSw.cell 2 rfl; go_simp; (try with_reducible rfl)
        try simp only [Act.put, List.setIfInBounds_toArray, List.set_cons_zero, List.set_cons_succ]
        refine line_take (i := 54) (v := ?_) (by simp only [List.getElem?_toArray, List.getElem?_cons_succ, List.getElem?_cons_zero]; rfl) (by kernel_rfl) (by kernel_rfl) (by rfl) ?_ ?_
        rotate_left
        · intro wy hSw; (try dsimp only at hSw); obtain ⟨b0, b1⟩ := hSw.cell 0 rfl; obtain ⟨b2, b3⟩ := hSw.cell 1 rfl; obtain ⟨b4, b5⟩ := hSw.cell 2 rfl; go_simp; (try with_reducible rfl)
        try simp only [Act.put, List.setIfInBounds_toArray, List.set_cons_zero, List.set_cons_succ]
        refine line_take (i := 55) (v := ?_) (by simp only [List.getElem?_toArray, List.getElem?_cons_succ, List.getElem?_cons_zero]; rfl) (by kernel_rfl) (by kernel_rfl) (by rfl) ?_ ?_
        rotate_left
        · intro wy hSw; (try dsimp only at hSw); obtain ⟨b0, b1⟩ := hSw.cell 0 rfl; obtain ⟨b2, b3⟩ := hSw.cell 1 rfl; obtain ⟨b4, b5⟩ := hSw.cell 2 rfl; go_simp; (try with_reducible rfl)
        try simp only [Act.put, List.setIfInBounds_toArray, List.set_cons_zero, List.set_cons_succ]
        refine line_take (i := 56) (v := ?_) (by simp only [List.getElem?_toArray, List.getElem?_cons_succ, List.getElem?_cons_zero]; rfl) (by kernel_rfl) (by kernel_rfl) (by rfl) ?_ ?_
        rotate_left
        · intro wy hSw; (try dsimp only at hSw); obtain ⟨b0, b1⟩ := hSw.cell 0 rfl; obtain ⟨b2, b3⟩ := hSw.cell 1 rfl; obtain ⟨b4, b5⟩ := hSw.cell 2 rfl; go_simp; (try with_reducible rfl)
        try simp only [Act.put, List.setIfInBounds_toArray, List.set_cons_zero, List.set_cons_succ]
        refine line_take (i := 57) (v := ?_) (by simp only [List.getElem?_toArray, List.getElem?_cons_succ, List.getElem?_cons_zero]; rfl) (by kernel_rfl) (by kernel_rfl) (by rfl) ?_ ?_
        rotate_left
        · intro wy hSw; (try dsimp only at hSw); obtain ⟨b0, b1⟩ := hSw.cell 0 rfl; obtain ⟨b2, b3⟩ := hSw.cell 1 rfl; obtain ⟨b4, b5⟩ := hSw.cell 2 rfl; go_simp; (try with_reducible rfl)
        try simp only [Act.put, List.setIfInBounds_toArray, List.set_cons_zero, List.set_cons_succ]
        refine line_take (i := 58) (v := ?_) (by simp only [List.getElem?_toArray, List.getElem?_cons_succ, List.getElem?_cons_zero]; rfl) (by kernel_rfl) (by kernel_rfl) (by rfl) ?_ ?_
        rotate_left
        · intro wy hSw; (try dsimp only at hSw); obtain ⟨b0, b1⟩ := hSw.cell 0 rfl; obtain ⟨b2, b3⟩ := hSw.cell 1 rfl; obtain ⟨b4, b5⟩ := hSw.cell 2 rfl; go_simp; (try with_reducible rfl)
        try simp only [Act.put, List.setIfInBounds_toArray, List.set_cons_zero, List.set_cons_succ]
        refine line_take (i := 59) (v := ?_) (by simp only [List.getElem?_toArray, List.getElem?_cons_succ, List.getElem?_cons_zero]; rfl) (by kernel_rfl) (by kernel_rfl) (by rfl) ?_ ?_
        rotate_left
        · intro wy hSw; (try dsimp only at hSw); obtain ⟨b0, b1⟩ := hSw.cell 0 rfl; obtain ⟨b2, b3⟩ := hSw.cell 1 rfl; obtain ⟨b4, b5⟩ := hSw.cell 2 rfl; go_simp; (try with_reducible rfl)
        try simp only [Act.put, List.setIfInBounds_toArray, List.set_cons_zero, List.set_cons_succ]
        refine line_take (i := 60) (v := ?_) (by simp only [List.getElem?_toArray, List.getElem?_cons_succ, List.getElem?_cons_zero]; rfl) (by kernel_rfl) (by kernel_rfl) (by rfl) ?_ ?_
        rotate_left
        · intro wy hSw; (try dsimp only at hSw); obtain ⟨b0, b1⟩ := hSw.cell 0 rfl; obtain ⟨b2, b3⟩ := hSw.cell 1 rfl; obtain ⟨b4, b5⟩ := hSw.cell 2 rfl; go_simp; (try with_reducible rfl)
        try simp only [Act.put, List.setIfInBounds_toArray, List.set_cons_zero, List.set_cons_succ]
        refine line_take (i := 61) (v := ?_) (by simp only [List.getElem?_toArray, List.getElem?_cons_succ, List.getElem?_cons_zero]; rfl) (by kernel_rfl) (by kernel_rfl) (by rfl) ?_ ?_
        rotate_left
        · intro wy hSw; (try dsimp only at hSw); obtain ⟨b0, b1⟩ := hSw.cell 0 rfl; obtain ⟨b2, b3⟩ := hSw.cell 1 rfl; obtain ⟨b4, b5⟩ := hSw.cell 2 rfl; go_simp; (try with_reducible rfl)
        try simp only [Act.put, List.setIfInBounds_toArray, List.set_cons_zero, List.set_cons_succ]
        refine line_take (i := 62) (v := ?_) (by simp only [List.getElem?_toArray, List.getElem?_cons_succ, List.getElem?_cons_zero]; rfl) (by kernel_rfl) (by kernel_rfl) (by rfl) ?_ ?_
        rotate_left
        · intro wy hSw; (try dsimp only at hSw); obtain ⟨b0, b1⟩ := hSw.cell 0 rfl; obtain ⟨b2, b3⟩ := hSw.cell 1 rfl; obtain ⟨b4, b5⟩ := hSw.cell 2 rfl; go_simp; (try with_reducible rfl)
        try simp only [Act.put, List.setIfInBounds_toArray, List.set_cons_zero, List.set_cons_succ]
        refine line_take (i := 63) (v := ?_) (by simp only [List.getElem?_toArray, List.getElem?_cons_succ, List.getElem?_cons_zero]; rfl) (by kernel_rfl) (by kernel_rfl) (by rfl) ?_ ?_
        rotate_left
        · intro wy hSw; (try dsimp only at hSw); obtain ⟨b0, b1⟩ := hSw.cell 0 rfl; obtain ⟨b2, b3⟩ := hSw.cell 1 rfl; obtain ⟨b4, b5⟩ := hSw.cell 2 rfl; go_simp; (try with_reducible rfl)
        try simp only [Act.put, List.setIfInBounds_toArray, List.set_cons_zero, List.set_cons_succ]
        refine line_take (i := 64) (v := ?_) (by simp only [List.getElem?_toArray, List.getElem?_cons_succ, List.getElem?_cons_zero]; rfl) (by kernel_rfl) (by kernel_rfl) (by rfl) ?_ ?_
        rotate_left
        · intro wy hSw; (try dsimp only at hSw); obtain ⟨b0, b1⟩ := hSw.cell 0 rfl; obtain ⟨b2, b3⟩ := hSw.cell 1 rfl; obtain ⟨b4, b5⟩ := hSw.cell 2 rfl; go_simp; (try with_reducible rfl)
        try simp only [Act.put, List.setIfInBounds_toArray, List.set_cons_zero, List.set_cons_succ]
        refine line_take (i := 65) (v := ?_) (by simp only [List.getElem?_toArray, List.getElem?_cons_succ, List.getElem?_cons_zero]; rfl) (by kernel_rfl) (by kernel_rfl) (by rfl) ?_ ?_
        rotate_left
        · intro wy hSw; (try dsimp only at hSw); obtain ⟨b0, b1⟩ := hSw.cell 0 rfl; obtain ⟨b2, b3⟩ := hSw.cell 1 rfl; obtain ⟨b4, b5⟩ := hSw.cell 2 rfl; go_simp; (try with_reducible rfl)
        try simp only [Act.put, List.setIfInBounds_toArray, List.set_cons_zero, List.set_cons_succ]
        refine line_take (i := 66) (v := ?_) (by simp only [List.getElem?_toArray, List.getElem?_cons_succ, List.getElem?_cons_zero]; rfl) (by kernel_rfl) (by kernel_rfl) (by rfl) ?_ ?_
        rotate_left
        · intro wy hSw; (try dsimp only at hSw); obtain ⟨b0, b1⟩ := hSw.cell 0 rfl; obtain ⟨b2, b3⟩ := hSw.cell 1 rfl; obtain ⟨b4, b5⟩ := hSw.cell 2 rfl; go_simp; (try with_reducible rfl)
        try simp only [Act.put, List.setIfInBounds_toArray, List.set_cons_zero, List.set_cons_succ]
        refine line_take (i := 67) (v := ?_) (by simp only [List.getElem?_toArray, List.getElem?_cons_succ, List.getElem?_cons_zero]; rfl) (by kernel_rfl) (by kernel_rfl) (by rfl) ?_ ?_
        rotate_left
        · intro wy hSw; (try dsimp only at hSw); obtain ⟨b0, b1⟩ := hSw.cell 0 rfl; obtain ⟨b2, b3⟩ := hSw.cell 1 rfl; obtain ⟨b4, b5⟩ := hSw.cell 2 rfl; go_simp; (try with_reducible rfl)
        try simp only [Act.put, List.setIfInBounds_toArray, List.set_cons_zero, List.set_cons_succ]
        refine line_take (i := 68) (v := ?_) (by simp only [List.getElem?_toArray, List.getElem?_cons_succ, List.getElem?_cons_zero]; rfl) (by kernel_rfl) (by kernel_rfl) (by rfl) ?_ ?_
        rotate_left
        · intro wy hSw; (try dsimp only at hSw); obtain ⟨b0, b1⟩ := hSw.cell 0 rfl; obtain ⟨b2, b3⟩ := hSw.cell 1 rfl; obtain ⟨b4, b5⟩ := hSw.cell 2 rfl; go_simp; (try with_reducible rfl)
        try simp only [Act.put, List.setIfInBounds_toArray, List.set_cons_zero, List.set_cons_succ]
        refine line_take (i := 69) (v := ?_) (by simp only [List.getElem?_toArray, List.getElem?_cons_succ, List.getElem?_cons_zero]; rfl) (by kernel_rfl) (by kernel_rfl) (by rfl) ?_ ?_
        rotate_left
        · intro wy hSw; (try dsimp only at hSw); obtain ⟨b0, b1⟩ := hSw.cell 0 rfl; obtain ⟨b2, b3⟩ := hSw.cell 1 rfl; obtain ⟨b4, b5⟩ := hSw.cell 2 rfl; go_simp; (try with_reducible rfl)
        try simp only [Act.put, List.setIfInBounds_toArray, List.set_cons_zero, List.set_cons_succ]
        refine line_take (i := 70) (v := ?_) (by simp only [List.getElem?_toArray, List.getElem?_cons_succ, List.getElem?_cons_zero]; rfl) (by kernel_rfl) (by kernel_rfl) (by rfl) ?_ ?_
        rotate_left
        · intro wy hSw; (try dsimp only at hSw); obtain ⟨b0, b1⟩ := hSw.cell 0 rfl; obtain ⟨b2, b3⟩ := hSw.cell 1 rfl; obtain ⟨b4, b5⟩ := hSw.cell 2 rfl; go_simp; (try with_reducible rfl)
        try simp only [Act.put, List.setIfInBounds_toArray, List.set_cons_zero, List.set_cons_succ]
        refine line_take (i := 71) (v := ?_) (by simp only [List.getElem?_toArray, List.getElem?_cons_succ, List.getElem?_cons_zero]; rfl) (by kernel_rfl) (by kernel_rfl) (by rfl) ?_ ?_
        rotate_left
        · intro wy hSw; (try dsimp only at hSw); obtain ⟨b0, b1⟩ := hSw.cell 0 rfl; obtain ⟨b2, b3⟩ := hSw.cell 1 rfl; obtain ⟨b4, b5⟩ := hSw.cell 2 rfl; go_simp; (try with_reducible rfl)
        try simp only [Act.put, List.setIfInBounds_toArray, List.set_cons_zero, List.set_cons_succ]
        refine Line.done (by kernel_rfl) ?_
        intro wf hSf
        have hbf := hSf.base
        clear hSf HR13
        go_wp2
        go_ret
        exact ⟨rfl, hbf⟩
    · obtain ⟨N, hN, h5, -, hrv, hsm⟩ := HCF.out rfl
      have HTW := Lib.hid (fun W E k (h1 : Ints W W.heap.size E r) => HTO.out W E k h1 hrv)
      rw [hsm] at HTW
      have HVW := Lib.hid (fun W (h0 : T W) (h1 : Ints W W.heap.size Af f) => HVA.out W ((2 ^ N - 1 : Nat) : Int) h0 h1)
      generalize valueOf n f ((2 ^ N - 1 : Nat) : Int) = vv at HTW HVW
      have p8 : (vv == vv) = true := by simp
      have hp2 := Nat.two_pow_pos N
      have h32 : 2 ^ N ≤ 32 := Nat.le_trans (Nat.pow_le_pow_right (by decide) h5) (by decide)
      obtain ⟨p, hp⟩ : ∃ p : Nat, (2 ^ N - 1 : Nat) = p := ⟨_, rfl⟩
      have hpz : (2 : Int) ^ N = (p : Int) + 1 := by
        have h1 : ((2 ^ N : Nat) : Int) = (p : Int) + 1 := by omega
        rw [← h1]; push_cast; rfl
      rw [hp] at HVW
      subst hN
      have hN0 : ¬ (N : Int) < 0 := by omega
      have hN64 : (N : Int) < 64 := by omega
      have hpow : IntKind.i64.wrap ((p : Int) + 1) = (p : Int) + 1 := IntWalk.i64_in _ (by omega)
      have hpow2 : IntKind.i64.wrap (p : Int) = (p : Int) := IntWalk.i64_in _ (by omega)
      have htn : ((N : Int)).toNat = N := Int.toNat_natCast N
      clear hrv hsm hp2 h32 hp HCF HVA HTO
      as_aux_lemma =>
        refine wp_region_line (S := (fun W => Kc T w W [(t7.heap.size, n3, .slice Ah f3.length ch), (t4.heap.size, n2, .slice Ag f2.length cg), (t1.heap.size, (N : Int), .slice Af f.length cf)] [(D5, y), (Ah, f3), (V4, o), (V3, o), (Ag, f2), (V2, r), (V1, r), (Af, f)])) (by kernel_rfl) (by kernel_rfl) ?_ ?_
        · exact HR13.out.drew
        refine line_take (i := 0) (v := ?_) (by simp only [List.getElem?_toArray, List.getElem?_cons_succ, List.getElem?_cons_zero]; rfl) (by kernel_rfl) (by kernel_rfl) (by rfl) ?_ ?_
        rotate_left
        · intro wy hSw; (try dsimp only at hSw); obtain ⟨b0, b1⟩ := hSw.cell 0 rfl; obtain ⟨b2, b3⟩ := hSw.cell 1 rfl; obtain ⟨b4, b5⟩ := hSw.cell 2 rfl; go_simp; (try with_reducible rfl)
        try simp only [Act.put, List.setIfInBounds_toArray, List.set_cons_zero, List.set_cons_succ]
        refine line_take (i := 1) (v := ?_) (by simp only [List.getElem?_toArray, List.getElem?_cons_succ, List.getElem?_cons_zero]; rfl) (by kernel_rfl) (by kernel_rfl) (by rfl) ?_ ?_
        rotate_left
        · intro wy hSw; (try dsimp only at hSw); obtain ⟨b0, b1⟩ := hSw.cell 0 rfl; obtain ⟨b2, b3⟩ := hSw.cell 1 rfl; obtain ⟨b4, b5⟩ := hSw.cell 2 rfl; go_simp; (try with_reducible rfl)
        try simp only [Act.put, List.setIfInBounds_toArray, List.set_cons_zero, List.set_cons_succ]
        refine line_take (i := 2) (v := ?_) (by simp only [List.getElem?_toArray, List.getElem?_cons_succ, List.getElem?_cons_zero]; rfl) (by kernel_rfl) (by kernel_rfl) (by rfl) ?_ ?_
        rotate_left
        · intro wy hSw; (try dsimp only at hSw); obtain ⟨b0, b1⟩ := hSw.cell 0 rfl; obtain ⟨b2, b3⟩ := hSw.cell 1 rfl; obtain ⟨b4, b5⟩ := hSw.cell 2 rfl; go_simp; (try with_reducible rfl)
        try simp only [Act.put, List.setIfInBounds_toArray, List.set_cons_zero, List.set_cons_succ]
        refine line_take (i := 3) (v := ?_) (by simp only [List.getElem?_toArray, List.getElem?_cons_succ, List.getElem?_cons_zero]; rfl) (by kernel_rfl) (by kernel_rfl) (by rfl) ?_ ?_
        rotate_left
        · intro wy hSw; (try dsimp only at hSw); obtain ⟨b0, b1⟩ := hSw.cell 0 rfl; obtain ⟨b2, b3⟩ := hSw.cell 1 rfl; obtain ⟨b4, b5⟩ := hSw.cell 2 rfl; go_simp; (try with_reducible rfl)
        try simp only [Act.put, List.setIfInBounds_toArray, List.set_cons_zero, List.set_cons_succ]
        refine line_take (i := 4) (v := ?_) (by simp only [List.getElem?_toArray, List.getElem?_cons_succ, List.getElem?_cons_zero]; rfl) (by kernel_rfl) (by kernel_rfl) (by rfl) ?_ ?_
        rotate_left
        · intro wy hSw; (try dsimp only at hSw); obtain ⟨b0, b1⟩ := hSw.cell 0 rfl; obtain ⟨b2, b3⟩ := hSw.cell 1 rfl; obtain ⟨b4, b5⟩ := hSw.cell 2 rfl; go_simp; (try with_reducible rfl)
        try simp only [Act.put, List.setIfInBounds_toArray, List.set_cons_zero, List.set_cons_succ]
        refine line_take (i := 5) (v := ?_) (by simp only [List.getElem?_toArray, List.getElem?_cons_succ, List.getElem?_cons_zero]; rfl) (by kernel_rfl) (by kernel_rfl) (by rfl) ?_ ?_
        rotate_left
        · intro wy hSw; (try dsimp only at hSw); obtain ⟨b0, b1⟩ := hSw.cell 0 rfl; obtain ⟨b2, b3⟩ := hSw.cell 1 rfl; obtain ⟨b4, b5⟩ := hSw.cell 2 rfl; go_simp; (try with_reducible rfl)
        try simp only [Act.put, List.setIfInBounds_toArray, List.set_cons_zero, List.set_cons_succ]
        refine line_call (i := 6) (v := ?_) ?_ ?_ (by simp only [List.getElem?_toArray, List.getElem?_cons_succ, List.getElem?_cons_zero]; rfl) (by kernel_rfl) (by kernel_rfl) (by rfl) ?hc35 ?hv35 ?hn35
        case hv35 => intro wy hSw; go_simp; (try first | with_reducible rfl | (constructor <;> with_reducible rfl))
        case hc35 => intro wy hSw; (try dsimp only at hSw); refine Calls.mono (by with_reducible exact (sameInts_same V1 V2 r k1 k2 _ (Lib.hid (hSw.list 6 rfl)) (Lib.hid (hSw.list 5 rfl)) (by have := HRL.out; omega))) ?_; rintro e9 wq ⟨rfl, q9, rfl⟩; refine ⟨?_, hSw.drewN q9⟩; with_reducible rfl
        try simp only [Act.put, List.setIfInBounds_toArray, List.set_cons_zero, List.set_cons_succ]
        refine line_take (i := 7) (v := ?_) (by simp only [List.getElem?_toArray, List.getElem?_cons_succ, List.getElem?_cons_zero]; rfl) (by kernel_rfl) (by kernel_rfl) (by rfl) ?_ ?_
        rotate_left
        · intro wy hSw; (try dsimp only at hSw); obtain ⟨b0, b1⟩ := hSw.cell 0 rfl; obtain ⟨b2, b3⟩ := hSw.cell 1 rfl; obtain ⟨b4, b5⟩ := hSw.cell 2 rfl; go_simp; (try with_reducible rfl)
        try simp only [Act.put, List.setIfInBounds_toArray, List.set_cons_zero, List.set_cons_succ]
        refine line_take (i := 8) (v := ?_) (by simp only [List.getElem?_toArray, List.getElem?_cons_succ, List.getElem?_cons_zero]; rfl) (by kernel_rfl) (by kernel_rfl) (by rfl) ?_ ?_
        rotate_left
        · intro wy hSw; (try dsimp only at hSw); obtain ⟨b0, b1⟩ := hSw.cell 0 rfl; obtain ⟨b2, b3⟩ := hSw.cell 1 rfl; obtain ⟨b4, b5⟩ := hSw.cell 2 rfl; go_simp; (try with_reducible rfl)
        try simp only [Act.put, List.setIfInBounds_toArray, List.set_cons_zero, List.set_cons_succ]
        refine line_take (i := 9) (v := ?_) (by simp only [List.getElem?_toArray, List.getElem?_cons_succ, List.getElem?_cons_zero]; rfl) (by kernel_rfl) (by kernel_rfl) (by rfl) ?_ ?_
        rotate_left
        · intro wy hSw; (try dsimp only at hSw); obtain ⟨b0, b1⟩ := hSw.cell 0 rfl; obtain ⟨b2, b3⟩ := hSw.cell 1 rfl; obtain ⟨b4, b5⟩ := hSw.cell 2 rfl; go_simp; (try with_reducible rfl)
        try simp only [Act.put, List.setIfInBounds_toArray, List.set_cons_zero, List.set_cons_succ]
        refine line_take (i := 10) (v := ?_) (by simp only [List.getElem?_toArray, List.getElem?_cons_succ, List.getElem?_cons_zero]; rfl) (by kernel_rfl) (by kernel_rfl) (by rfl) ?_ ?_
        rotate_left
        · intro wy hSw; (try dsimp only at hSw); obtain ⟨b0, b1⟩ := hSw.cell 0 rfl; obtain ⟨b2, b3⟩ := hSw.cell 1 rfl; obtain ⟨b4, b5⟩ := hSw.cell 2 rfl; go_simp; (try with_reducible rfl)
        try simp only [Act.put, List.setIfInBounds_toArray, List.set_cons_zero, List.set_cons_succ]
        refine line_take (i := 11) (v := ?_) (by simp only [List.getElem?_toArray, List.getElem?_cons_succ, List.getElem?_cons_zero]; rfl) (by kernel_rfl) (by kernel_rfl) (by rfl) ?_ ?_
        rotate_left
        · intro wy hSw; (try dsimp only at hSw); obtain ⟨b0, b1⟩ := hSw.cell 0 rfl; obtain ⟨b2, b3⟩ := hSw.cell 1 rfl; obtain ⟨b4, b5⟩ := hSw.cell 2 rfl; go_simp; (try with_reducible rfl)
        try simp only [Act.put, List.setIfInBounds_toArray, List.set_cons_zero, List.set_cons_succ]
        refine line_take (i := 12) (v := ?_) (by simp only [List.getElem?_toArray, List.getElem?_cons_succ, List.getElem?_cons_zero]; rfl) (by kernel_rfl) (by kernel_rfl) (by rfl) ?_ ?_
        rotate_left
        · intro wy hSw; (try dsimp only at hSw); obtain ⟨b0, b1⟩ := hSw.cell 0 rfl; obtain ⟨b2, b3⟩ := hSw.cell 1 rfl; obtain ⟨b4, b5⟩ := hSw.cell 2 rfl; go_simp; (try with_reducible rfl)
        try simp only [Act.put, List.setIfInBounds_toArray, List.set_cons_zero, List.set_cons_succ]
        refine line_call (i := 13) (v := ?_) ?_ ?_ (by simp only [List.getElem?_toArray, List.getElem?_cons_succ, List.getElem?_cons_zero]; rfl) (by kernel_rfl) (by kernel_rfl) (by rfl) ?hc36 ?hv36 ?hn36
        case hv36 => intro wy hSw; go_simp; (try first | with_reducible rfl | (constructor <;> with_reducible rfl))
        case hc36 => intro wy hSw; (try dsimp only at hSw); refine Calls.mono (by with_reducible exact (HTW.out _ V2 k2 (hSw.list 5 rfl))) ?_; rintro e9 wq ⟨rfl, rfl⟩; refine ⟨?_, hSw⟩; with_reducible rfl
        try simp only [Act.put, List.setIfInBounds_toArray, List.set_cons_zero, List.set_cons_succ]
        refine line_take (i := 14) (v := ?_) (by simp only [List.getElem?_toArray, List.getElem?_cons_succ, List.getElem?_cons_zero]; rfl) (by kernel_rfl) (by kernel_rfl) (by rfl) ?_ ?_
        rotate_left
        · intro wy hSw; (try dsimp only at hSw); obtain ⟨b0, b1⟩ := hSw.cell 0 rfl; obtain ⟨b2, b3⟩ := hSw.cell 1 rfl; obtain ⟨b4, b5⟩ := hSw.cell 2 rfl; go_simp; (try with_reducible rfl)
        try simp only [Act.put, List.setIfInBounds_toArray, List.set_cons_zero, List.set_cons_succ]
        refine line_take (i := 15) (v := ?_) (by simp only [List.getElem?_toArray, List.getElem?_cons_succ, List.getElem?_cons_zero]; rfl) (by kernel_rfl) (by kernel_rfl) (by rfl) ?_ ?_
        rotate_left
        · intro wy hSw; (try dsimp only at hSw); obtain ⟨b0, b1⟩ := hSw.cell 0 rfl; obtain ⟨b2, b3⟩ := hSw.cell 1 rfl; obtain ⟨b4, b5⟩ := hSw.cell 2 rfl; go_simp; (try with_reducible rfl)
        try simp only [Act.put, List.setIfInBounds_toArray, List.set_cons_zero, List.set_cons_succ]
        refine line_take (i := 16) (v := ?_) (by simp only [List.getElem?_toArray, List.getElem?_cons_succ, List.getElem?_cons_zero]; rfl) (by kernel_rfl) (by kernel_rfl) (by rfl) ?_ ?_
        rotate_left
        · intro wy hSw; (try dsimp only at hSw); obtain ⟨b0, b1⟩ := hSw.cell 0 rfl; obtain ⟨b2, b3⟩ := hSw.cell 1 rfl; obtain ⟨b4, b5⟩ := hSw.cell 2 rfl; go_simp; (try with_reducible rfl)
        try simp only [Act.put, List.setIfInBounds_toArray, List.set_cons_zero, List.set_cons_succ]
        refine line_take (i := 17) (v := ?_) (by simp only [List.getElem?_toArray, List.getElem?_cons_succ, List.getElem?_cons_zero]; rfl) (by kernel_rfl) (by kernel_rfl) (by rfl) ?_ ?_
        rotate_left
        · intro wy hSw; (try dsimp only at hSw); obtain ⟨b0, b1⟩ := hSw.cell 0 rfl; obtain ⟨b2, b3⟩ := hSw.cell 1 rfl; obtain ⟨b4, b5⟩ := hSw.cell 2 rfl; go_simp; (try with_reducible rfl)
        try simp only [Act.put, List.setIfInBounds_toArray, List.set_cons_zero, List.set_cons_succ]
        refine line_take (i := 18) (v := ?_) (by simp only [List.getElem?_toArray, List.getElem?_cons_succ, List.getElem?_cons_zero]; rfl) (by kernel_rfl) (by kernel_rfl) (by rfl) ?_ ?_
        rotate_left
        · intro wy hSw; (try dsimp only at hSw); obtain ⟨b0, b1⟩ := hSw.cell 0 rfl; obtain ⟨b2, b3⟩ := hSw.cell 1 rfl; obtain ⟨b4, b5⟩ := hSw.cell 2 rfl; go_simp; (try with_reducible rfl)
        try simp only [Act.put, List.setIfInBounds_toArray, List.set_cons_zero, List.set_cons_succ]
        refine line_call (i := 19) (v := ?_) ?_ ?_ (by simp only [List.getElem?_toArray, List.getElem?_cons_succ, List.getElem?_cons_zero]; rfl) (by kernel_rfl) (by kernel_rfl) (by rfl) ?hc37 ?hv37 ?hn37
        case hv37 => intro wy hSw; go_simp; (try first | with_reducible rfl | (constructor <;> with_reducible rfl))
        case hc37 => intro wy hSw; (try dsimp only at hSw); refine Calls.mono (by with_reducible exact (HVW.out _ hSw.fact (hSw.list 7 rfl))) ?_; rintro e9 wq ⟨rfl, hb⟩; refine ⟨?_, hSw.below hb⟩; with_reducible rfl
        try simp only [Act.put, List.setIfInBounds_toArray, List.set_cons_zero, List.set_cons_succ]
        refine line_take (i := 20) (v := ?_) (by simp only [List.getElem?_toArray, List.getElem?_cons_succ, List.getElem?_cons_zero]; rfl) (by kernel_rfl) (by kernel_rfl) (by rfl) ?_ ?_
        rotate_left
        · intro wy hSw; (try dsimp only at hSw); obtain ⟨b0, b1⟩ := hSw.cell 0 rfl; obtain ⟨b2, b3⟩ := hSw.cell 1 rfl; obtain ⟨b4, b5⟩ := hSw.cell 2 rfl; go_simp; (try with_reducible rfl)
        try simp only [Act.put, List.setIfInBounds_toArray, List.set_cons_zero, List.set_cons_succ]
        refine line_take (i := 21) (v := ?_) (by simp only [List.getElem?_toArray, List.getElem?_cons_succ, List.getElem?_cons_zero]; rfl) (by kernel_rfl) (by kernel_rfl) (by rfl) ?_ ?_
        rotate_left
        · intro wy hSw; (try dsimp only at hSw); obtain ⟨b0, b1⟩ := hSw.cell 0 rfl; obtain ⟨b2, b3⟩ := hSw.cell 1 rfl; obtain ⟨b4, b5⟩ := hSw.cell 2 rfl; go_simp; (try with_reducible rfl)
        try simp only [Act.put, List.setIfInBounds_toArray, List.set_cons_zero, List.set_cons_succ]
        refine line_take (i := 22) (v := ?_) (by simp only [List.getElem?_toArray, List.getElem?_cons_succ, List.getElem?_cons_zero]; rfl) (by kernel_rfl) (by kernel_rfl) (by rfl) ?_ ?_
        rotate_left
        · intro wy hSw; (try dsimp only at hSw); obtain ⟨b0, b1⟩ := hSw.cell 0 rfl; obtain ⟨b2, b3⟩ := hSw.cell 1 rfl; obtain ⟨b4, b5⟩ := hSw.cell 2 rfl; go_simp; (try with_reducible rfl)
        try simp only [Act.put, List.setIfInBounds_toArray, List.set_cons_zero, List.set_cons_succ]
        refine line_take (i := 23) (v := ?_) (by simp only [List.getElem?_toArray, List.getElem?_cons_succ, List.getElem?_cons_zero]; rfl) (by kernel_rfl) (by kernel_rfl) (by rfl) ?_ ?_
        rotate_left
        · intro wy hSw; (try dsimp only at hSw); obtain ⟨b0, b1⟩ := hSw.cell 0 rfl; obtain ⟨b2, b3⟩ := hSw.cell 1 rfl; obtain ⟨b4, b5⟩ := hSw.cell 2 rfl; go_simp; (try with_reducible rfl)
        try simp only [Act.put, List.setIfInBounds_toArray, List.set_cons_zero, List.set_cons_succ]
        refine line_take (i := 24) (v := ?_) (by simp only [List.getElem?_toArray, List.getElem?_cons_succ, List.getElem?_cons_zero]; rfl) (by kernel_rfl) (by kernel_rfl) (by rfl) ?_ ?_
        rotate_left
        · intro wy hSw; (try dsimp only at hSw); obtain ⟨b0, b1⟩ := hSw.cell 0 rfl; obtain ⟨b2, b3⟩ := hSw.cell 1 rfl; obtain ⟨b4, b5⟩ := hSw.cell 2 rfl; go_simp; (try with_reducible rfl)
        try simp only [Act.put, List.setIfInBounds_toArray, List.set_cons_zero, List.set_cons_succ]
        refine line_take (i := 25) (v := ?_) (by simp only [List.getElem?_toArray, List.getElem?_cons_succ, List.getElem?_cons_zero]; rfl) (by kernel_rfl) (by kernel_rfl) (by rfl) ?_ ?_
        rotate_left
        · intro wy hSw; (try dsimp only at hSw); obtain ⟨b0, b1⟩ := hSw.cell 0 rfl; obtain ⟨b2, b3⟩ := hSw.cell 1 rfl; obtain ⟨b4, b5⟩ := hSw.cell 2 rfl; go_simp; (try with_reducible rfl)
        try simp only [Act.put, List.setIfInBounds_toArray, List.set_cons_zero, List.set_cons_succ]
        refine line_take (i := 26) (v := ?_) (by simp only [List.getElem?_toArray, List.getElem?_cons_succ, List.getElem?_cons_zero]; rfl) (by kernel_rfl) (by kernel_rfl) (by rfl) ?_ ?_
        rotate_left
        · intro wy hSw; (try dsimp only at hSw); obtain ⟨b0, b1⟩ := hSw.cell 0 rfl; obtain ⟨b2, b3⟩ := hSw.cell 1 rfl; obtain ⟨b4, b5⟩ := hSw.cell 2 rfl; go_simp; (try with_reducible rfl)
        try simp only [Act.put, List.setIfInBounds_toArray, List.set_cons_zero, List.set_cons_succ]
        refine line_take (i := 27) (v := ?_) (by simp only [List.getElem?_toArray, List.getElem?_cons_succ, List.getElem?_cons_zero]; rfl) (by kernel_rfl) (by kernel_rfl) (by rfl) ?_ ?_
        rotate_left
        · intro wy hSw; (try dsimp only at hSw); obtain ⟨b0, b1⟩ := hSw.cell 0 rfl; obtain ⟨b2, b3⟩ := hSw.cell 1 rfl; obtain ⟨b4, b5⟩ := hSw.cell 2 rfl; go_simp; (try with_reducible rfl)
        try simp only [Act.put, List.setIfInBounds_toArray, List.set_cons_zero, List.set_cons_succ]
        refine line_take (i := 28) (v := ?_) (by simp only [List.getElem?_toArray, List.getElem?_cons_succ, List.getElem?_cons_zero]; rfl) (by kernel_rfl) (by kernel_rfl) (by rfl) ?_ ?_
        rotate_left
        · intro wy hSw; (try dsimp only at hSw); obtain ⟨b0, b1⟩ := hSw.cell 0 rfl; obtain ⟨b2, b3⟩ := hSw.cell 1 rfl; obtain ⟨b4, b5⟩ := hSw.cell 2 rfl; go_simp; (try with_reducible rfl)
        try simp only [Act.put, List.setIfInBounds_toArray, List.set_cons_zero, List.set_cons_succ]
        refine line_take (i := 29) (v := ?_) (by simp only [List.getElem?_toArray, List.getElem?_cons_succ, List.getElem?_cons_zero]; rfl) (by kernel_rfl) (by kernel_rfl) (by rfl) ?_ ?_
        rotate_left
        · intro wy hSw; (try dsimp only at hSw); obtain ⟨b0, b1⟩ := hSw.cell 0 rfl; obtain ⟨b2, b3⟩ := hSw.cell 1 rfl; obtain ⟨b4, b5⟩ := hSw.cell 2 rfl; go_simp; (try with_reducible rfl)
        try simp only [Act.put, List.setIfInBounds_toArray, List.set_cons_zero, List.set_cons_succ]
        refine line_take (i := 30) (v := ?_) (by simp only [List.getElem?_toArray, List.getElem?_cons_succ, List.getElem?_cons_zero]; rfl) (by kernel_rfl) (by kernel_rfl) (by rfl) ?_ ?_
        rotate_left
        · intro wy hSw; (try dsimp only at hSw); obtain ⟨b0, b1⟩ := hSw.cell 0 rfl; obtain ⟨b2, b3⟩ := hSw.cell 1 rfl; obtain ⟨b4, b5⟩ := hSw.cell 2 rfl; go_simp; (try with_reducible rfl)
        try simp only [Act.put, List.setIfInBounds_toArray, List.set_cons_zero, List.set_cons_succ]
        refine line_call (i := 31) (v := ?_) ?_ ?_ (by simp only [List.getElem?_toArray, List.getElem?_cons_succ, List.getElem?_cons_zero]; rfl) (by kernel_rfl) (by kernel_rfl) (by rfl) ?hc38 ?hv38 ?hn38
        case hv38 => intro wy hSw; go_simp; (try first | with_reducible rfl | (constructor <;> with_reducible rfl))
        case hc38 => intro wy hSw; (try dsimp only at hSw); refine Calls.mono (by with_reducible exact (sameInts_same V3 V4 o k3 k4 _ (Lib.hid (hSw.list 3 rfl)) (Lib.hid (hSw.list 2 rfl)) (by have := HOL.out; omega))) ?_; rintro e9 wq ⟨rfl, q9, rfl⟩; refine ⟨?_, hSw.drewN q9⟩; with_reducible rfl
        try simp only [Act.put, List.setIfInBounds_toArray, List.set_cons_zero, List.set_cons_succ]
        refine line_take (i := 32) (v := ?_) (by simp only [List.getElem?_toArray, List.getElem?_cons_succ, List.getElem?_cons_zero]; rfl) (by kernel_rfl) (by kernel_rfl) (by rfl) ?_ ?_
        rotate_left
        · intro wy hSw; (try dsimp only at hSw); obtain ⟨b0, b1⟩ := hSw.cell 0 rfl; obtain ⟨b2, b3⟩ := hSw.cell 1 rfl; obtain ⟨b4, b5⟩ := hSw.cell 2 rfl; go_simp; (try with_reducible rfl)
        try simp only [Act.put, List.setIfInBounds_toArray, List.set_cons_zero, List.set_cons_succ]
        refine line_take (i := 33) (v := ?_) (by simp only [List.getElem?_toArray, List.getElem?_cons_succ, List.getElem?_cons_zero]; rfl) (by kernel_rfl) (by kernel_rfl) (by rfl) ?_ ?_
        rotate_left
        · intro wy hSw; (try dsimp only at hSw); obtain ⟨b0, b1⟩ := hSw.cell 0 rfl; obtain ⟨b2, b3⟩ := hSw.cell 1 rfl; obtain ⟨b4, b5⟩ := hSw.cell 2 rfl; go_simp; (try with_reducible rfl)
        try simp only [Act.put, List.setIfInBounds_toArray, List.set_cons_zero, List.set_cons_succ]
        refine line_take (i := 34) (v := ?_) (by simp only [List.getElem?_toArray, List.getElem?_cons_succ, List.getElem?_cons_zero]; rfl) (by kernel_rfl) (by kernel_rfl) (by rfl) ?_ ?_
        rotate_left
        · intro wy hSw; (try dsimp only at hSw); obtain ⟨b0, b1⟩ := hSw.cell 0 rfl; obtain ⟨b2, b3⟩ := hSw.cell 1 rfl; obtain ⟨b4, b5⟩ := hSw.cell 2 rfl; go_simp; (try with_reducible rfl)
        try simp only [Act.put, List.setIfInBounds_toArray, List.set_cons_zero, List.set_cons_succ]
        refine line_take (i := 35) (v := ?_) (by simp only [List.getElem?_toArray, List.getElem?_cons_succ, List.getElem?_cons_zero]; rfl) (by kernel_rfl) (by kernel_rfl) (by rfl) ?_ ?_
        rotate_left
        · intro wy hSw; (try dsimp only at hSw); obtain ⟨b0, b1⟩ := hSw.cell 0 rfl; obtain ⟨b2, b3⟩ := hSw.cell 1 rfl; obtain ⟨b4, b5⟩ := hSw.cell 2 rfl; go_simp; (try with_reducible rfl)
        try simp only [Act.put, List.setIfInBounds_toArray, List.set_cons_zero, List.set_cons_succ]
        refine line_take (i := 36) (v := ?_) (by simp only [List.getElem?_toArray, List.getElem?_cons_succ, List.getElem?_cons_zero]; rfl) (by kernel_rfl) (by kernel_rfl) (by rfl) ?_ ?_
        rotate_left
        · intro wy hSw; (try dsimp only at hSw); obtain ⟨b0, b1⟩ := hSw.cell 0 rfl; obtain ⟨b2, b3⟩ := hSw.cell 1 rfl; obtain ⟨b4, b5⟩ := hSw.cell 2 rfl; go_simp; (try with_reducible rfl)
        try simp only [Act.put, List.setIfInBounds_toArray, List.set_cons_zero, List.set_cons_succ]
        refine line_take (i := 37) (v := ?_) (by simp only [List.getElem?_toArray, List.getElem?_cons_succ, List.getElem?_cons_zero]; rfl) (by kernel_rfl) (by kernel_rfl) (by rfl) ?_ ?_
        rotate_left
        · intro wy hSw; (try dsimp only at hSw); obtain ⟨b0, b1⟩ := hSw.cell 0 rfl; obtain ⟨b2, b3⟩ := hSw.cell 1 rfl; obtain ⟨b4, b5⟩ := hSw.cell 2 rfl; go_simp; (try with_reducible rfl)
        try simp only [Act.put, List.setIfInBounds_toArray, List.set_cons_zero, List.set_cons_succ]
        refine line_take (i := 38) (v := ?_) (by simp only [List.getElem?_toArray, List.getElem?_cons_succ, List.getElem?_cons_zero]; rfl) (by kernel_rfl) (by kernel_rfl) (by rfl) ?_ ?_
        rotate_left
        · intro wy hSw; (try dsimp only at hSw); obtain ⟨b0, b1⟩ := hSw.cell 0 rfl; obtain ⟨b2, b3⟩ := hSw.cell 1 rfl; obtain ⟨b4, b5⟩ := hSw.cell 2 rfl; go_simp; (try with_reducible rfl)
        try simp only [Act.put, List.setIfInBounds_toArray, List.set_cons_zero, List.set_cons_succ]
        refine line_call (i := 39) (v := ?_) ?_ ?_ (by simp only [List.getElem?_toArray, List.getElem?_cons_succ, List.getElem?_cons_zero]; rfl) (by kernel_rfl) (by kernel_rfl) (by rfl) ?hc39 ?hv39 ?hn39
        case hv39 => intro wy hSw; go_simp; (try first | with_reducible rfl | (constructor <;> with_reducible rfl))
        case hc39 => intro wy hSw; (try dsimp only at hSw); refine Calls.mono (by with_reducible exact (HBW.out _ V4 k4 hSw.fact (hSw.list 4 rfl) (hSw.list 2 rfl))) ?_; rintro e9 wq ⟨rfl, hb⟩; refine ⟨?_, hSw.below hb⟩; with_reducible rfl
        try simp only [Act.put, List.setIfInBounds_toArray, List.set_cons_zero, List.set_cons_succ]
        refine line_take (i := 40) (v := ?_) (by simp only [List.getElem?_toArray, List.getElem?_cons_succ, List.getElem?_cons_zero]; rfl) (by kernel_rfl) (by kernel_rfl) (by rfl) ?_ ?_
        rotate_left
        · intro wy hSw; (try dsimp only at hSw); obtain ⟨b0, b1⟩ := hSw.cell 0 rfl; obtain ⟨b2, b3⟩ := hSw.cell 1 rfl; obtain ⟨b4, b5⟩ := hSw.cell 2 rfl; go_simp; (try with_reducible rfl)
        try simp only [Act.put, List.setIfInBounds_toArray, List.set_cons_zero, List.set_cons_succ]
        refine line_take (i := 41) (v := ?_) (by simp only [List.getElem?_toArray, List.getElem?_cons_succ, List.getElem?_cons_zero]; rfl) (by kernel_rfl) (by kernel_rfl) (by rfl) ?_ ?_
        rotate_left
        · intro wy hSw; (try dsimp only at hSw); obtain ⟨b0, b1⟩ := hSw.cell 0 rfl; obtain ⟨b2, b3⟩ := hSw.cell 1 rfl; obtain ⟨b4, b5⟩ := hSw.cell 2 rfl; go_simp; (try with_reducible rfl)
        try simp only [Act.put, List.setIfInBounds_toArray, List.set_cons_zero, List.set_cons_succ]
        refine line_take (i := 42) (v := ?_) (by simp only [List.getElem?_toArray, List.getElem?_cons_succ, List.getElem?_cons_zero]; rfl) (by kernel_rfl) (by kernel_rfl) (by rfl) ?_ ?_
        rotate_left
        · intro wy hSw; (try dsimp only at hSw); obtain ⟨b0, b1⟩ := hSw.cell 0 rfl; obtain ⟨b2, b3⟩ := hSw.cell 1 rfl; obtain ⟨b4, b5⟩ := hSw.cell 2 rfl; go_simp; (try with_reducible rfl)
        try simp only [Act.put, List.setIfInBounds_toArray, List.set_cons_zero, List.set_cons_succ]
        refine line_take (i := 43) (v := ?_) (by simp only [List.getElem?_toArray, List.getElem?_cons_succ, List.getElem?_cons_zero]; rfl) (by kernel_rfl) (by kernel_rfl) (by rfl) ?_ ?_
        rotate_left
        · intro wy hSw; (try dsimp only at hSw); obtain ⟨b0, b1⟩ := hSw.cell 0 rfl; obtain ⟨b2, b3⟩ := hSw.cell 1 rfl; obtain ⟨b4, b5⟩ := hSw.cell 2 rfl; go_simp; (try with_reducible rfl)
        try simp only [Act.put, List.setIfInBounds_toArray, List.set_cons_zero, List.set_cons_succ]
        refine line_take (i := 44) (v := ?_) (by simp only [List.getElem?_toArray, List.getElem?_cons_succ, List.getElem?_cons_zero]; rfl) (by kernel_rfl) (by kernel_rfl) (by rfl) ?_ ?_
        rotate_left
        · intro wy hSw; (try dsimp only at hSw); obtain ⟨b0, b1⟩ := hSw.cell 0 rfl; obtain ⟨b2, b3⟩ := hSw.cell 1 rfl; obtain ⟨b4, b5⟩ := hSw.cell 2 rfl; go_simp; (try with_reducible rfl)
        try simp only [Act.put, List.setIfInBounds_toArray, List.set_cons_zero, List.set_cons_succ]
        refine line_call (i := 45) (v := ?_) ?_ ?_ (by simp only [List.getElem?_toArray, List.getElem?_cons_succ, List.getElem?_cons_zero]; rfl) (by kernel_rfl) (by kernel_rfl) (by rfl) ?hc40 ?hv40 ?hn40
        case hv40 => intro wy hSw; go_simp; (try first | with_reducible rfl | (constructor <;> with_reducible rfl))
        case hc40 => intro wy hSw; (try dsimp only at hSw); refine Calls.mono (by with_reducible exact (HI1.out _ hSw.fact (hSw.list 1 rfl) (hSw.list 0 rfl))) ?_; rintro e9 wq ⟨rfl, hb⟩; refine ⟨?_, hSw.below hb⟩; with_reducible rfl
        try simp only [Act.put, List.setIfInBounds_toArray, List.set_cons_zero, List.set_cons_succ]
        refine line_take (i := 46) (v := ?_) (by simp only [List.getElem?_toArray, List.getElem?_cons_succ, List.getElem?_cons_zero]; rfl) (by kernel_rfl) (by kernel_rfl) (by rfl) ?_ ?_
        rotate_left
        · intro wy hSw; (try dsimp only at hSw); obtain ⟨b0, b1⟩ := hSw.cell 0 rfl; obtain ⟨b2, b3⟩ := hSw.cell 1 rfl; obtain ⟨b4, b5⟩ := hSw.cell 2 rfl; go_simp; (try with_reducible rfl)
        try simp only [Act.put, List.setIfInBounds_toArray, List.set_cons_zero, List.set_cons_succ]
        refine line_take (i := 47) (v := ?_) (by simp only [List.getElem?_toArray, List.getElem?_cons_succ, List.getElem?_cons_zero]; rfl) (by kernel_rfl) (by kernel_rfl) (by rfl) ?_ ?_
        rotate_left
        · intro wy hSw; (try dsimp only at hSw); obtain ⟨b0, b1⟩ := hSw.cell 0 rfl; obtain ⟨b2, b3⟩ := hSw.cell 1 rfl; obtain ⟨b4, b5⟩ := hSw.cell 2 rfl; go_simp; (try with_reducible rfl)
        try simp only [Act.put, List.setIfInBounds_toArray, List.set_cons_zero, List.set_cons_succ]
        refine line_call (i := 48) (v := ?_) ?_ ?_ (by simp only [List.getElem?_toArray, List.getElem?_cons_succ, List.getElem?_cons_zero]; rfl) (by kernel_rfl) (by kernel_rfl) (by rfl) ?hc41 ?hv41 ?hn41
        case hv41 => intro wy hSw; go_simp; (try first | with_reducible rfl | (constructor <;> with_reducible rfl))
        case hc41 => intro wy hSw; (try dsimp only at hSw); refine Calls.mono (by with_reducible exact (HI2.out _ (hSw.list 1 rfl) (hSw.list 0 rfl))) ?_; rintro e9 wq ⟨rfl, hb⟩; refine ⟨?_, hSw.below hb⟩; with_reducible rfl
        try simp only [Act.put, List.setIfInBounds_toArray, List.set_cons_zero, List.set_cons_succ]
        refine line_take (i := 49) (v := ?_) (by simp only [List.getElem?_toArray, List.getElem?_cons_succ, List.getElem?_cons_zero]; rfl) (by kernel_rfl) (by kernel_rfl) (by rfl) ?_ ?_
        rotate_left
        · intro wy hSw; (try dsimp only at hSw); obtain ⟨b0, b1⟩ := hSw.cell 0 rfl; obtain ⟨b2, b3⟩ := hSw.cell 1 rfl; obtain ⟨b4, b5⟩ := hSw.cell 2 rfl; go_simp; (try with_reducible rfl)
        try simp only [Act.put, List.setIfInBounds_toArray, List.set_cons_zero, List.set_cons_succ]
        refine line_take (i := 50) (v := ?_) (by simp only [List.getElem?_toArray, List.getElem?_cons_succ, List.getElem?_cons_zero]; rfl) (by kernel_rfl) (by kernel_rfl) (by rfl) ?_ ?_
        rotate_left
        · intro wy hSw; (try dsimp only at hSw); obtain ⟨b0, b1⟩ := hSw.cell 0 rfl; obtain ⟨b2, b3⟩ := hSw.cell 1 rfl; obtain ⟨b4, b5⟩ := hSw.cell 2 rfl; go_simp; (try with_reducible rfl)
        try simp only [Act.put, List.setIfInBounds_toArray, List.set_cons_zero, List.set_cons_succ]
        refine line_take (i := 51) (v := ?_) (by simp only [List.getElem?_toArray, List.getElem?_cons_succ, List.getElem?_cons_zero]; rfl) (by kernel_rfl) (by kernel_rfl) (by rfl) ?_ ?_
        rotate_left
        · intro wy hSw; (try dsimp only at hSw); obtain ⟨b0, b1⟩ := hSw.cell 0 rfl; obtain ⟨b2, b3⟩ := hSw.cell 1 rfl; obtain ⟨b4, b5⟩ := hSw.cell 2 rfl; go_simp; (try with_reducible rfl)
        try simp only [Act.put, List.setIfInBounds_toArray, List.set_cons_zero, List.set_cons_succ]
        refine line_take (i := 52) (v := ?_) (by simp only [List.getElem?_toArray, List.getElem?_cons_succ, List.getElem?_cons_zero]; rfl) (by kernel_rfl) (by kernel_rfl) (by rfl) ?_ ?_
        rotate_left
        · intro wy hSw; (try dsimp only at hSw); obtain ⟨b0, b1⟩ := hSw.cell 0 rfl; obtain ⟨b2, b3⟩ := hSw.cell 1 rfl; obtain ⟨b4, b5⟩ := hSw.cell 2 rfl; go_simp; (try with_reducible rfl)
        try simp only [Act.put, List.setIfInBounds_toArray, List.set_cons_zero, List.set_cons_succ]
        refine line_take (i := 53) (v := ?_) (by simp only [List.getElem?_toArray, List.getElem?_cons_succ, List.getElem?_cons_zero]; rfl) (by kernel_rfl) (by kernel_rfl) (by rfl) ?_ ?_
        rotate_left
        · intro wy hSw; (try dsimp only at hSw); obtain ⟨b0, b1⟩ := hSw.cell 0 rfl; obtain ⟨b2, b3⟩ := hSw.cell 1 rfl; obtain ⟨b4, b5⟩ := hSw.cell 2 rfl; go_simp; (try with_reducible rfl)
        try simp only [Act.put, List.setIfInBounds_toArray, List.set_cons_zero, List.set_cons_succ]
        refine line_take (i := 54) (v := ?_) (by simp only [List.getElem?_toArray, List.getElem?_cons_succ, List.getElem?_cons_zero]; rfl) (by kernel_rfl) (by kernel_rfl) (by rfl) ?_ ?_
        rotate_left
        · intro wy hSw; (try dsimp only at hSw); obtain ⟨b0, b1⟩ := hSw.cell 0 rfl; obtain ⟨b2, b3⟩ := hSw.cell 1 rfl; obtain ⟨b4, b5⟩ := hSw.cell 2 rfl; go_simp; (try with_reducible rfl)
        try simp only [Act.put, List.setIfInBounds_toArray, List.set_cons_zero, List.set_cons_succ]
        refine line_take (i := 55) (v := ?_) (by simp only [List.getElem?_toArray, List.getElem?_cons_succ, List.getElem?_cons_zero]; rfl) (by kernel_rfl) (by kernel_rfl) (by rfl) ?_ ?_
        rotate_left
        · intro wy hSw; (try dsimp only at hSw); obtain ⟨b0, b1⟩ := hSw.cell 0 rfl; obtain ⟨b2, b3⟩ := hSw.cell 1 rfl; obtain ⟨b4, b5⟩ := hSw.cell 2 rfl; go_simp; (try with_reducible rfl)
        try simp only [Act.put, List.setIfInBounds_toArray, List.set_cons_zero, List.set_cons_succ]
        refine line_take (i := 56) (v := ?_) (by simp only [List.getElem?_toArray, List.getElem?_cons_succ, List.getElem?_cons_zero]; rfl) (by kernel_rfl) (by kernel_rfl) (by rfl) ?_ ?_
        rotate_left
        · intro wy hSw; (try dsimp only at hSw); obtain ⟨b0, b1⟩ := hSw.cell 0 rfl; obtain ⟨b2, b3⟩ := hSw.cell 1 rfl; obtain ⟨b4, b5⟩ := hSw.cell 2 rfl; go_simp; (try with_reducible rfl)
        try simp only [Act.put, List.setIfInBounds_toArray, List.set_cons_zero, List.set_cons_succ]
        refine line_take (i := 57) (v := ?_) (by simp only [List.getElem?_toArray, List.getElem?_cons_succ, List.getElem?_cons_zero]; rfl) (by kernel_rfl) (by kernel_rfl) (by rfl) ?_ ?_
        rotate_left
        · intro wy hSw; (try dsimp only at hSw); obtain ⟨b0, b1⟩ := hSw.cell 0 rfl; obtain ⟨b2, b3⟩ := hSw.cell 1 rfl; obtain ⟨b4, b5⟩ := hSw.cell 2 rfl; go_simp; (try with_reducible rfl)
        try simp only [Act.put, List.setIfInBounds_toArray, List.set_cons_zero, List.set_cons_succ]
        refine line_take (i := 58) (v := ?_) (by simp only [List.getElem?_toArray, List.getElem?_cons_succ, List.getElem?_cons_zero]; rfl) (by kernel_rfl) (by kernel_rfl) (by rfl) ?_ ?_
        rotate_left
        · intro wy hSw; (try dsimp only at hSw); obtain ⟨b0, b1⟩ := hSw.cell 0 rfl; obtain ⟨b2, b3⟩ := hSw.cell 1 rfl; obtain ⟨b4, b5⟩ := hSw.cell 2 rfl; go_simp; (try with_reducible rfl)
        try simp only [Act.put, List.setIfInBounds_toArray, List.set_cons_zero, List.set_cons_succ]
        refine line_take (i := 59) (v := ?_) (by simp only [List.getElem?_toArray, List.getElem?_cons_succ, List.getElem?_cons_zero]; rfl) (by kernel_rfl) (by kernel_rfl) (by rfl) ?_ ?_
        rotate_left
        · intro wy hSw; (try dsimp only at hSw); obtain ⟨b0, b1⟩ := hSw.cell 0 rfl; obtain ⟨b2, b3⟩ := hSw.cell 1 rfl; obtain ⟨b4, b5⟩ := hSw.cell 2 rfl; go_simp; (try with_reducible rfl)
        try simp only [Act.put, List.setIfInBounds_toArray, List.set_cons_zero, List.set_cons_succ]
        refine line_take (i := 60) (v := ?_) (by simp only [List.getElem?_toArray, List.getElem?_cons_succ, List.getElem?_cons_zero]; rfl) (by kernel_rfl) (by kernel_rfl) (by rfl) ?_ ?_
        rotate_left
        · intro wy hSw; (try dsimp only at hSw); obtain ⟨b0, b1⟩ := hSw.cell 0 rfl; obtain ⟨b2, b3⟩ := hSw.cell 1 rfl; obtain ⟨b4, b5⟩ := hSw.cell 2 rfl; go_simp; (try with_reducible rfl)
        try simp only [Act.put, List.setIfInBounds_toArray, List.set_cons_zero, List.set_cons_succ]
        refine line_take (i := 61) (v := ?_) (by simp only [List.getElem?_toArray, List.getElem?_cons_succ, List.getElem?_cons_zero]; rfl) (by kernel_rfl) (by kernel_rfl) (by rfl) ?_ ?_
        rotate_left
        · intro wy hSw; (try dsimp only at hSw); obtain ⟨b0, b1⟩ := hSw.cell 0 rfl; obtain ⟨b2, b3⟩ := hSw.cell 1 rfl; obtain ⟨b4, b5⟩ := hSw.cell 2 rfl; go_simp; (try with_reducible rfl)
        try simp only [Act.put, List.setIfInBounds_toArray, List.set_cons_zero, List.set_cons_succ]
        refine line_take (i := 62) (v := ?_) (by simp only [List.getElem?_toArray, List.getElem?_cons_succ, List.getElem?_cons_zero]; rfl) (by kernel_rfl) (by kernel_rfl) (by rfl) ?_ ?_
        rotate_left
        · intro wy hSw; (try dsimp only at hSw); obtain ⟨b0, b1⟩ := hSw.cell 0 rfl; obtain ⟨b2, b3⟩ := hSw.cell 1 rfl; obtain ⟨b4, b5⟩ := hSw.cell 2 rfl; go_simp; (try with_reducible rfl)
        try simp only [Act.put, List.setIfInBounds_toArray, List.set_cons_zero, List.set_cons_succ]
        refine line_take (i := 63) (v := ?_) (by simp only [List.getElem?_toArray, List.getElem?_cons_succ, List.getElem?_cons_zero]; rfl) (by kernel_rfl) (by kernel_rfl) (by rfl) ?_ ?_
        rotate_left
        · intro wy hSw; (try dsimp only at hSw); obtain ⟨b0, b1⟩ := hSw.cell 0 rfl; obtain ⟨b2, b3⟩ := hSw.cell 1 rfl; obtain ⟨b4, b5⟩ := hSw.cell 2 rfl; go_simp; (try with_reducible rfl)
        try simp only [Act.put, List.setIfInBounds_toArray, List.set_cons_zero, List.set_cons_succ]
        refine line_take (i := 64) (v := ?_) (by simp only [List.getElem?_toArray, List.getElem?_cons_succ, List.getElem?_cons_zero]; rfl) (by kernel_rfl) (by kernel_rfl) (by rfl) ?_ ?_
        rotate_left
        · intro wy hSw; (try dsimp only at hSw); obtain ⟨b0, b1⟩ := hSw.cell 0 rfl; obtain ⟨b2, b3⟩ := hSw.cell 1 rfl; obtain ⟨b4, b5⟩ := hSw.cell 2 rfl; go_simp; (try with_reducible rfl)
        try simp only [Act.put, List.setIfInBounds_toArray, List.set_cons_zero, List.set_cons_succ]
        refine line_take (i := 65) (v := ?_) (by simp only [List.getElem?_toArray, List.getElem?_cons_succ, List.getElem?_cons_zero]; rfl) (by kernel_rfl) (by kernel_rfl) (by rfl) ?_ ?_
        rotate_left
        · intro wy hSw; (try dsimp only at hSw); obtain ⟨b0, b1⟩ := hSw.cell 0 rfl; obtain ⟨b2, b3⟩ := hSw.cell 1 rfl; obtain ⟨b4, b5⟩ := hSw.cell 2 rfl; go_simp; (try with_reducible rfl)
        try simp only [Act.put, List.setIfInBounds_toArray, List.set_cons_zero, List.set_cons_succ]
        refine line_take (i := 66) (v := ?_) (by simp only [List.getElem?_toArray, List.getElem?_cons_succ, List.getElem?_cons_zero]; rfl) (by kernel_rfl) (by kernel_rfl) (by rfl) ?_ ?_
        rotate_left
        · intro wy hSw; (try dsimp only at hSw); obtain ⟨b0, b1⟩ := hSw.cell 0 rfl; obtain ⟨b2, b3⟩ := hSw.cell 1 rfl; obtain ⟨b4, b5⟩ := hSw.cell 2 rfl; go_simp; (try with_reducible rfl)
        try simp only [Act.put, List.setIfInBounds_toArray, List.set_cons_zero, List.set_cons_succ]
        refine line_take (i := 67) (v := ?_) (by simp only [List.getElem?_toArray, List.getElem?_cons_succ, List.getElem?_cons_zero]; rfl) (by kernel_rfl) (by kernel_rfl) (by rfl) ?_ ?_
        rotate_left
        · intro wy hSw; (try dsimp only at hSw); obtain ⟨b0, b1⟩ := hSw.cell 0 rfl; obtain ⟨b2, b3⟩ := hSw.cell 1 rfl; obtain ⟨b4, b5⟩ := hSw.cell 2 rfl; go_simp; (try with_reducible rfl)
        try simp only [Act.put, List.setIfInBounds_toArray, List.set_cons_zero, List.set_cons_succ]
        refine line_take (i := 68) (v := ?_) (by simp only [List.getElem?_toArray, List.getElem?_cons_succ, List.getElem?_cons_zero]; rfl) (by kernel_rfl) (by kernel_rfl) (by rfl) ?_ ?_
        rotate_left
        · intro wy hSw; (try dsimp only at hSw); obtain ⟨b0, b1⟩ := hSw.cell 0 rfl; obtain ⟨b2, b3⟩ := hSw.cell 1 rfl; obtain ⟨b4, b5⟩ := hSw.cell 2 rfl; go_simp; (try with_reducible rfl)
        try simp only [Act.put, List.setIfInBounds_toArray, List.set_cons_zero, List.set_cons_succ]
        refine line_take (i := 69) (v := ?_) (by simp only [List.getElem?_toArray, List.getElem?_cons_succ, List.getElem?_cons_zero]; rfl) (by kernel_rfl) (by kernel_rfl) (by rfl) ?_ ?_
        rotate_left
        · intro wy hSw; (try dsimp only at hSw); obtain ⟨b0, b1⟩ := hSw.cell 0 rfl; obtain ⟨b2, b3⟩ := hSw.cell 1 rfl; obtain ⟨b4, b5⟩ := hSw.cell 2 rfl; go_simp; (try with_reducible rfl)
        try simp only [Act.put, List.setIfInBounds_toArray, List.set_cons_zero, List.set_cons_succ]
        refine line_take (i := 70) (v := ?_) (by simp only [List.getElem?_toArray, List.getElem?_cons_succ, List.getElem?_cons_zero]; rfl) (by kernel_rfl) (by kernel_rfl) (by rfl) ?_ ?_
        rotate_left
        · intro wy hSw; (try dsimp only at hSw); obtain ⟨b0, b1⟩ := hSw.cell 0 rfl; obtain ⟨b2, b3⟩ := hSw.cell 1 rfl; obtain ⟨b4, b5⟩ := hSw.cell 2 rfl; go_simp; (try with_reducible rfl)
        try simp only [Act.put, List.setIfInBounds_toArray, List.set_cons_zero, List.set_cons_succ]
        refine line_take (i := 71) (v := ?_) (by simp only [List.getElem?_toArray, List.getElem?_cons_succ, List.getElem?_cons_zero]; rfl) (by kernel_rfl) (by kernel_rfl) (by rfl) ?_ ?_
        rotate_left
        · intro wy hSw; (try dsimp only at hSw); obtain ⟨b0, b1⟩ := hSw.cell 0 rfl; obtain ⟨b2, b3⟩ := hSw.cell 1 rfl; obtain ⟨b4, b5⟩ := hSw.cell 2 rfl; go_simp; (try with_reducible rfl)
        try simp only [Act.put, List.setIfInBounds_toArray, List.set_cons_zero, List.set_cons_succ]
        refine Line.done (by kernel_rfl) ?_
        intro wf hSf
        have hbf := hSf.base
        clear hSf HR13
        go_wp2
        go_ret
        exact ⟨rfl, hbf⟩


end Go.Proofs.YtffbiflgmlabaaaDoor.C
