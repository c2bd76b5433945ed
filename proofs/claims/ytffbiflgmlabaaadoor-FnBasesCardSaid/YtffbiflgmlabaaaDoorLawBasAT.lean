/-
  The law of bases, walked: tight sets.
-/
import Derived.Test.YtffbiflgmlabaaaDoorLawBasB
namespace Go.Proofs.YtffbiflgmlabaaaDoor.C
open Go.RowKit M K
set_option linter.unusedVariables false
set_option linter.unusedSimpArgs false

set_option maxRecDepth 100000 in
set_option maxHeartbeats 16000000 in
theorem law_bases_AT (T : World → Prop) (stay : ∀ W W', T W → Below W.heap.size W W' → T W') (a : Option Addr) (len cap : Nat) (w : World) (hl : len ≤ 1048576) (hy : Hid (Bytes w.heap.size w (.slice a len cap) len)) (HT : Hid (T w))
    (iTight : Hid (∀ (W : World) (n : Int) (A : Option Addr) (xs : List Int) (c : Nat) (D : Option Addr) (ys : List Int) (d : Nat), T W → Hid (Ints W W.heap.size A xs) → Hid (Ints W W.heap.size D ys) → ys.length ≤ 1048576 → Calls Tryd.prog 10 #[.agg #[.int .i64 n, .slice A xs.length c], .slice D ys.length d] W (RetIB W (tightSets n xs ys).1 (tightSets n xs ys).2)))
    (iBelow : Hid (∀ (W : World) (n : Int) (A : Option Addr) (xs : List Int) (c : Nat) (D : Option Addr) (ys : List Int) (d : Nat), T W → Hid (Ints W W.heap.size A xs) → Hid (Ints W W.heap.size D ys) → ys.length ≤ 1048576 → Calls Tryd.prog 13 #[.agg #[.int .i64 n, .slice A xs.length c], .slice D ys.length d] W (RetV W (.bool (isBelow n xs ys)))))
    (iBase : Hid (∀ (W : World) (n : Int) (A : Option Addr) (xs : List Int) (c : Nat) (D : Option Addr) (ys : List Int) (d : Nat), T W → Hid (Ints W W.heap.size A xs) → Hid (Ints W W.heap.size D ys) → ys.length ≤ 1048576 → Calls Tryd.prog 14 #[.agg #[.int .i64 n, .slice A xs.length c], .slice D ys.length d] W (RetV W (.bool (isBase n xs ys)))))
    (iLat : Hid (∀ (W : World) (A : Option Addr) (xs : List Int) (c : Nat), T W → Hid (Ints W W.heap.size A xs) → xs.length ≤ 1048576 → Calls Tryd.prog 18 #[.slice A xs.length c] W (RetV W (.bool (isLat xs)))))
    (iCap : Hid (∀ (W : World) (n : Int) (A : Option Addr) (xs : List Int) (c : Nat) (D : Option Addr) (ys : List Int) (d : Nat) (e : Int), T W → Hid (Ints W W.heap.size A xs) → Hid (Ints W W.heap.size D ys) → ys.length ≤ 1048576 → Calls Tryd.prog 20 #[.agg #[.int .i64 n, .slice A xs.length c], .slice D ys.length d, .int .i64 e] W (RetV W (.tuple #[.int .i64 (capOf n xs ys e).1, .bool (capOf n xs ys e).2]))))
    (iExch : Hid (∀ (W : World) (n : Int) (A : Option Addr) (xs : List Int) (c : Nat) (D : Option Addr) (ys : List Int) (d : Nat) (e h : Int), T W → Hid (Ints W W.heap.size A xs) → Hid (Ints W W.heap.size D ys) → ys.length ≤ 1048576 → Calls Tryd.prog 23 #[.agg #[.int .i64 n, .slice A xs.length c], .slice D ys.length d, .int .i64 e, .int .i64 h] W (RetV W (.tuple #[.int .i64 (exchOf n xs ys e h).1, .bool (exchOf n xs ys e h).2]))))
    (iCor : Hid (∀ (W : World) (n : Int) (A : Option Addr) (xs : List Int) (c : Nat) (D : Option Addr) (ys : List Int) (d : Nat), T W → Hid (Ints W W.heap.size A xs) → Hid (Ints W W.heap.size D ys) → ys.length ≤ 1048576 → Calls Tryd.prog 26 #[.agg #[.int .i64 n, .slice A xs.length c], .slice D ys.length d] W (RetIB W (cornerOf n xs ys).1 (cornerOf n xs ys).2)))
    (iRaise : Hid (∀ (W : World) (n : Int) (A : Option Addr) (xs : List Int) (c : Nat) (D : Option Addr) (ys : List Int) (d : Nat) (E : Option Addr) (ms : List Int) (k : Nat), T W → Hid (Ints W W.heap.size A xs) → Hid (Ints W W.heap.size D ys) → ys.length ≤ 1048576 → Hid (Ints W W.heap.size E ms) → ms.length ≤ 1048576 → Calls Tryd.prog 29 #[.agg #[.int .i64 n, .slice A xs.length c], .slice D ys.length d, .slice E ms.length k] W (RetIB W (raiseVec n xs ys ms).1 (raiseVec n xs ys ms).2)))
    (iIsD : Hid (∀ (W : World) (n : Int) (A : Option Addr) (xs : List Int) (c : Nat) (D : Option Addr) (ys : List Int) (d : Nat), T W → Hid (Ints W W.heap.size A xs) → Hid (Ints W W.heap.size D ys) → ys.length ≤ 1048576 → Calls Tryd.prog 40 #[.agg #[.int .i64 n, .slice A xs.length c], .slice D ys.length d] W (RetV W (.bool (isDual n xs ys)))))
    (iRank : Hid (∀ (W : World) (n : Int) (A : Option Addr) (xs : List Int) (c : Nat) (D : Option Addr) (ys : List Int) (d : Nat), T W → Hid (Ints W W.heap.size A xs) → Hid (Ints W W.heap.size D ys) → ys.length ≤ 1048576 → Calls Tryd.prog 33 #[.agg #[.int .i64 n, .slice A xs.length c], .slice D ys.length d] W (RetV W (.tuple #[.int .i64 (rankVec n xs ys).1, .bool (rankVec n xs ys).2]))))
    (iNeg : Hid (∀ (W : World) (A : Option Addr) (xs : List Int) (c : Nat), T W → Hid (Ints W W.heap.size A xs) → xs.length ≤ 1048576 → Calls Tryd.prog 36 #[.slice A xs.length c] W (RetV W (.tuple #[.int .i64 (negPart xs).1, .bool (negPart xs).2]))))
    (iVal : Hid (∀ (W : World) (n : Int) (A : Option Addr) (xs : List Int) (c : Nat) (s : Int), T W → Hid (Ints W W.heap.size A xs) → Calls Tryd.prog 39 #[.agg #[.int .i64 n, .slice A xs.length c], .int .i64 s] W (RetV W (.int .i64 (valueOf n xs s)))))
    (n : Int) (f : List Int) (Af : Option Addr) (cf : Nat) (D : Option Addr) (dd : Nat) (x l : List Int) (V1 V2 : Option Addr) (k1 k2 g1 : Nat) (l_1 l_2 l_9 l_10 l_11 l_12 l_13 l_14 l_15 l_16 l_17 l_18 l_19 l_20 l_21 l_22 l_23 l_24 l_25 l_26 l_27 l_28 l_29 l_30 l_31 l_32 l_33 l_34 l_35 l_36 l_37 l_38 l_39 l_40 l_41 l_42 l_43 l_44 l_45 l_46 l_47 l_48 l_49 l_50 l_51 l_52 l_53 l_54 l_55 l_56 l_57 l_58 l_59 l_60 l_61 l_62 l_63 l_64 l_65 l_66 l_67 l_68 l_69 l_70 l_71 l_72 l_73 l_74 l_75 l_76 l_77 l_78 l_79 l_80 l_81 l_82 l_83 l_84 l_85 l_86 l_87 l_88 l_89 l_90 l_91 l_92 l_93 l_94 l_95 l_96 l_97 l_98 l_99 l_100 l_101 l_102 l_103 l_104 l_105 l_106 l_107 l_108 l_109 l_110 l_111 l_112 l_113 l_114 l_115 l_116 l_117 l_118 l_119 l_120 l_121 l_122 l_123 l_124 l_125 l_126 l_127 l_128 l_129 l_130 l_131 l_132 l_133 l_134 l_135 l_136 l_137 l_138 l_139 l_140 l_141 l_142 l_143 l_144 l_145 l_146 l_147 l_148 l_149 l_150 l_151 l_152 l_153 l_154 l_155 l_156 l_157 l_158 l_159 l_160 l_161 l_162 l_163 l_164 l_165 l_166 l_167 l_168 l_169 l_170 l_171 l_172 l_173 l_174 l_175 l_176 l_177 l_178 l_179 l_180 l_181 l_182 l_183 l_184 l_185 l_186 l_187 l_188 l_189 l_190 l_191 l_192 l_193 l_194 l_195 l_196 l_197 l_198 l_199 l_200 l_201 l_202 l_203 l_204 l_205 l_206 l_207 l_208 l_209 l_210 l_211 l_212 l_213 l_214 l_215 l_216 l_217 l_218 l_219 l_220 l_221 l_222 l_223 l_224 l_225 l_226 l_227 l_228 l_229 l_230 l_231 l_232 l_233 l_234 l_235 l_236 l_237 l_238 l_239 l_240 l_241 l_242 l_243 l_244 l_245 l_246 l_247 l_248 l_249 l_250 l_251 l_252 l_253 l_254 l_255 l_256 l_257 l_258 l_259 l_260 l_261 l_262 l_263 l_264 l_265 l_266 l_267 l_268 l_269 l_270 l_271 l_272 l_273 l_274 l_275 l_276 l_277 l_278 l_279 l_280 l_281 l_282 l_283 l_284 l_285 l_286 l_287 l_288 l_289 l_290 l_291 l_292 l_293 l_294 l_295 l_296 l_297 l_298 l_299 l_300 l_301 l_302 l_303 l_304 l_305 l_306 l_307 l_308 l_309 l_310 l_311 l_312 l_313 l_314 l_315 l_316 l_317 l_318 l_319 l_320 l_321 l_322 l_323 l_324 l_325 l_326 l_327 l_328 l_329 l_330 l_331 l_332 l_333 l_334 l_335 l_336 l_337 l_338 l_339 l_340 l_341 l_342 l_343 l_344 l_345 l_346 l_347 l_348 l_349 l_350 l_351 l_352 l_353 l_354 l_355 l_356 l_357 l_358 l_359 l_360 l_361 l_362 l_363 l_364 l_365 l_366 l_367 l_368 l_369 l_370 l_371 l_372 l_373 l_374 l_375 l_376 l_377 l_378 l_379 l_380 l_381 l_382 l_383 l_384 l_385 l_386 l_387 l_388 l_389 l_390 l_391 : Value) (w' : World) (hx5 : Hid (x.length ≤ 1048576)) (hlf2 : Hid (f.length ≤ 1048576)) (hts : Hid (tightSets n f x = (l, true))) (hsub : Hid (isSub n f = true)) (HK3 : Hid (Kc T w w' [(g1, n, .slice Af f.length cf)] [(V2, l), (V1, l), (D, x), (Af, f)]))
    : Code.wp Tryd.prog (dropS 5 ((Tryd.f3.body).getD .skip)) (bodyPost Tryd.prog Tryd.f3 (RetV w (.bool true))) ⟨#[.slice a len cap, l_1, l_2, .pointer (some ⟨g1, 0, none⟩), .slice D x.length dd, .slice V1 l.length k1, .bool true, .slice V2 l.length k2, .bool true, l_9, l_10, l_11, l_12, l_13, l_14, l_15, l_16, l_17, l_18, l_19, l_20, l_21, l_22, l_23, l_24, l_25, l_26, l_27, l_28, l_29, l_30, l_31, l_32, l_33, l_34, l_35, l_36, l_37, l_38, l_39, l_40, l_41, l_42, l_43, l_44, l_45, l_46, l_47, l_48, l_49, l_50, l_51, l_52, l_53, l_54, l_55, l_56, l_57, l_58, l_59, l_60, l_61, l_62, l_63, l_64, l_65, l_66, l_67, l_68, l_69, l_70, l_71, l_72, l_73, l_74, l_75, l_76, l_77, l_78, l_79, l_80, l_81, l_82, l_83, l_84, l_85, l_86, l_87, l_88, l_89, l_90, l_91, l_92, l_93, l_94, l_95, l_96, l_97, l_98, l_99, l_100, l_101, l_102, l_103, l_104, l_105, l_106, l_107, l_108, l_109, l_110, l_111, l_112, l_113, l_114, l_115, l_116, l_117, l_118, l_119, l_120, l_121, l_122, l_123, l_124, l_125, l_126, l_127, l_128, l_129, l_130, l_131, l_132, l_133, l_134, l_135, l_136, l_137, l_138, l_139, l_140, l_141, l_142, l_143, l_144, l_145, l_146, l_147, l_148, l_149, l_150, l_151, l_152, l_153, l_154, l_155, l_156, l_157, l_158, l_159, l_160, l_161, l_162, l_163, l_164, l_165, l_166, l_167, l_168, l_169, l_170, l_171, l_172, l_173, l_174, l_175, l_176, l_177, l_178, l_179, l_180, l_181, l_182, l_183, l_184, l_185, l_186, l_187, l_188, l_189, l_190, l_191, l_192, l_193, l_194, l_195, l_196, l_197, l_198, l_199, l_200, l_201, l_202, l_203, l_204, l_205, l_206, l_207, l_208, l_209, l_210, l_211, l_212, l_213, l_214, l_215, l_216, l_217, l_218, l_219, l_220, l_221, l_222, l_223, l_224, l_225, l_226, l_227, l_228, l_229, l_230, l_231, l_232, l_233, l_234, l_235, l_236, l_237, l_238, l_239, l_240, l_241, l_242, l_243, l_244, l_245, l_246, l_247, l_248, l_249, l_250, l_251, l_252, l_253, l_254, l_255, l_256, l_257, l_258, l_259, l_260, l_261, l_262, l_263, l_264, l_265, l_266, l_267, l_268, l_269, l_270, l_271, l_272, l_273, l_274, l_275, l_276, l_277, l_278, l_279, l_280, l_281, l_282, l_283, l_284, l_285, l_286, l_287, l_288, l_289, l_290, l_291, l_292, l_293, l_294, l_295, l_296, l_297, l_298, l_299, l_300, l_301, l_302, l_303, l_304, l_305, l_306, l_307, l_308, l_309, l_310, l_311, l_312, l_313, l_314, l_315, l_316, l_317, l_318, l_319, l_320, l_321, l_322, l_323, l_324, l_325, l_326, l_327, l_328, l_329, l_330, l_331, l_332, l_333, l_334, l_335, l_336, l_337, l_338, l_339, l_340, l_341, l_342, l_343, l_344, l_345, l_346, l_347, l_348, l_349, l_350, l_351, l_352, l_353, l_354, l_355, l_356, l_357, l_358, l_359, l_360, l_361, l_362, l_363, l_364, l_365, l_366, l_367, l_368, l_369, l_370, l_371, l_372, l_373, l_374, l_375, l_376, l_377, l_378, l_379, l_380, l_381, l_382, l_383, l_384, l_385, l_386, l_387, l_388, l_389, l_390, l_391], []⟩ w' := by
  conv => arg 2; whnf
  have HB1 := Lib.hid (fun W (h0 : T W) (h1 : Ints W W.heap.size Af f) (h2 : Ints W W.heap.size D x) => iBelow.out W n Af f cf D x dd h0 (Lib.hid h1) (Lib.hid h2) hx5.out)
  have HB2 := Lib.hid (fun W (h0 : T W) (h1 : Ints W W.heap.size Af f) (h2 : Ints W W.heap.size D x) => iBase.out W n Af f cf D x dd h0 (Lib.hid h1) (Lib.hid h2) hx5.out)
  have HB3 := Lib.hid (fun W (h1 : Ints W W.heap.size Af f) (h2 : Ints W W.heap.size D x) => baseS_any n Af f cf D x dd W (Lib.hid h1) (Lib.hid h2) hx5.out)
  have HSU := Lib.hid (fun W (h1 : Ints W W.heap.size Af f) => subS_any n Af f cf W (Lib.hid h1))
  have HBF := Lib.hid (fun (h : (tightSets n f x).2 = true) => below_facts (n := n) (xs := f) (ws := x) (by rw [← tights_flag]; exact h))
  rw [← tights_flag n f x] at HB1
  have htl := Nat.le_trans (tights_le n f x) hlf2.out
  rw [hts.out] at HB1 HBF htl
  dsimp only at HB1 HBF htl
  have HLA := Lib.hid (fun W E e (h0 : T W) (h1 : Ints W W.heap.size E l) => iLat.out W E l e h0 (Lib.hid h1) htl)
  dsimp only
  go_upto_region 6 with (fail)
  go_cut [119] (fun s119 wx => s119 = .bool false ∧ Kc T w wx [] [])
  case first =>
    as_aux_lemma =>
      have HLEN := Lib.hid htl
      clear htl
      have q1 : (true != true) = false := by simp
      obtain ⟨bb, hbb⟩ : ∃ bb, isBase n f x = bb := ⟨_, rfl⟩
      rw [hbb] at HB2 HB3
      have q2 : (bb != bb) = false := by simp
      obtain ⟨N, hN, h5, hba, hla⟩ := HBF.out rfl
      (try dsimp only at hba hla)
      rw [hbb] at hba
      have HHA := Lib.hid (fun W E e (h1 : Ints W W.heap.size E l) => hasL_any E l e ((2 ^ N - 1 : Nat) : Int) W (Lib.hid h1) (by have := HLEN.out; omega))
      rw [← hba] at HHA
      have hp2 := Nat.two_pow_pos N
      have h32 : 2 ^ N ≤ 32 := Nat.le_trans (Nat.pow_le_pow_right (by decide) h5) (by decide)
      obtain ⟨p, hp⟩ : ∃ p : Nat, (2 ^ N - 1 : Nat) = p := ⟨_, rfl⟩
      have hpz : (2 : Int) ^ N = (p : Int) + 1 := by
        have h1 : ((2 ^ N : Nat) : Int) = (p : Int) + 1 := by omega
        rw [← h1]; push_cast; rfl
      rw [hp] at HHA
      subst hN
      have hN0 : ¬ (N : Int) < 0 := by omega
      have hN64 : (N : Int) < 64 := by omega
      have hpow : IntKind.i64.wrap ((p : Int) + 1) = (p : Int) + 1 := IntWalk.i64_in _ (by omega)
      have hpow2 : IntKind.i64.wrap (p : Int) = (p : Int) := IntWalk.i64_in _ (by omega)
      have htn : ((N : Int)).toNat = N := Int.toNat_natCast N
      clear hba HBF hbb hp2 h32 hp
      have hsu := hsub.out
      rw [hsu] at HSU
      rw [hla hsu] at HLA
      clear hsu hla
      refine wp_region_line (S := (fun W => Kc T w W [(g1, (N : Int), .slice Af f.length cf)] [(V2, l), (V1, l), (D, x), (Af, f)])) (by kernel_rfl) (by kernel_rfl) ?_ ?_
      · exact HK3.out.drew
      refine line_take (i := 0) (v := ?_) (by simp only [List.getElem?_toArray, List.getElem?_cons_succ, List.getElem?_cons_zero]; rfl) (by kernel_rfl) (by kernel_rfl) (by rfl) ?_ ?_
      rotate_left
      · intro wy hSw; (try dsimp only at hSw); obtain ⟨b0, b1⟩ := hSw.cell 0 rfl; go_simp; (try with_reducible rfl)
      try simp only [Act.put, List.setIfInBounds_toArray, List.set_cons_zero, List.set_cons_succ]
      refine line_take (i := 1) (v := ?_) (by simp only [List.getElem?_toArray, List.getElem?_cons_succ, List.getElem?_cons_zero]; rfl) (by kernel_rfl) (by kernel_rfl) (by rfl) ?_ ?_
      rotate_left
      · intro wy hSw; (try dsimp only at hSw); obtain ⟨b0, b1⟩ := hSw.cell 0 rfl; go_simp; (try with_reducible rfl)
      try simp only [Act.put, List.setIfInBounds_toArray, List.set_cons_zero, List.set_cons_succ]
      refine line_take (i := 2) (v := ?_) (by simp only [List.getElem?_toArray, List.getElem?_cons_succ, List.getElem?_cons_zero]; rfl) (by kernel_rfl) (by kernel_rfl) (by rfl) ?_ ?_
      rotate_left
      · intro wy hSw; (try dsimp only at hSw); obtain ⟨b0, b1⟩ := hSw.cell 0 rfl; go_simp; (try with_reducible rfl)
      try simp only [Act.put, List.setIfInBounds_toArray, List.set_cons_zero, List.set_cons_succ]
      refine line_take (i := 3) (v := ?_) (by simp only [List.getElem?_toArray, List.getElem?_cons_succ, List.getElem?_cons_zero]; rfl) (by kernel_rfl) (by kernel_rfl) (by rfl) ?_ ?_
      rotate_left
      · intro wy hSw; (try dsimp only at hSw); obtain ⟨b0, b1⟩ := hSw.cell 0 rfl; go_simp; (try with_reducible rfl)
      try simp only [Act.put, List.setIfInBounds_toArray, List.set_cons_zero, List.set_cons_succ]
      refine line_take (i := 4) (v := ?_) (by simp only [List.getElem?_toArray, List.getElem?_cons_succ, List.getElem?_cons_zero]; rfl) (by kernel_rfl) (by kernel_rfl) (by rfl) ?_ ?_
      rotate_left
      · intro wy hSw; (try dsimp only at hSw); obtain ⟨b0, b1⟩ := hSw.cell 0 rfl; go_simp; (try with_reducible rfl)
      try simp only [Act.put, List.setIfInBounds_toArray, List.set_cons_zero, List.set_cons_succ]
      refine line_take (i := 5) (v := ?_) (by simp only [List.getElem?_toArray, List.getElem?_cons_succ, List.getElem?_cons_zero]; rfl) (by kernel_rfl) (by kernel_rfl) (by rfl) ?_ ?_
      rotate_left
      · intro wy hSw; (try dsimp only at hSw); obtain ⟨b0, b1⟩ := hSw.cell 0 rfl; go_simp; (try with_reducible rfl)
      try simp only [Act.put, List.setIfInBounds_toArray, List.set_cons_zero, List.set_cons_succ]
      refine line_call (i := 6) (v := ?_) ?_ ?_ (by simp only [List.getElem?_toArray, List.getElem?_cons_succ, List.getElem?_cons_zero]; rfl) (by kernel_rfl) (by kernel_rfl) (by rfl) ?hc53 ?hv53 ?hn53
      case hv53 => intro wy hSw; go_simp; (try first | with_reducible rfl | (constructor <;> with_reducible rfl))
      case hc53 => intro wy hSw; (try dsimp only at hSw); refine Calls.mono (by with_reducible exact (sameInts_same V1 V2 l k1 k2 _ (Lib.hid (hSw.list 1 rfl)) (Lib.hid (hSw.list 0 rfl)) (by have := HLEN.out; omega))) ?_; rintro e9 wq ⟨rfl, q9, rfl⟩; refine ⟨?_, hSw.drewN q9⟩; with_reducible rfl
      try simp only [Act.put, List.setIfInBounds_toArray, List.set_cons_zero, List.set_cons_succ]
      refine line_take (i := 7) (v := ?_) (by simp only [List.getElem?_toArray, List.getElem?_cons_succ, List.getElem?_cons_zero]; rfl) (by kernel_rfl) (by kernel_rfl) (by rfl) ?_ ?_
      rotate_left
      · intro wy hSw; (try dsimp only at hSw); obtain ⟨b0, b1⟩ := hSw.cell 0 rfl; go_simp; (try with_reducible rfl)
      try simp only [Act.put, List.setIfInBounds_toArray, List.set_cons_zero, List.set_cons_succ]
      refine line_take (i := 8) (v := ?_) (by simp only [List.getElem?_toArray, List.getElem?_cons_succ, List.getElem?_cons_zero]; rfl) (by kernel_rfl) (by kernel_rfl) (by rfl) ?_ ?_
      rotate_left
      · intro wy hSw; (try dsimp only at hSw); obtain ⟨b0, b1⟩ := hSw.cell 0 rfl; go_simp; (try with_reducible rfl)
      try simp only [Act.put, List.setIfInBounds_toArray, List.set_cons_zero, List.set_cons_succ]
      refine line_take (i := 9) (v := ?_) (by simp only [List.getElem?_toArray, List.getElem?_cons_succ, List.getElem?_cons_zero]; rfl) (by kernel_rfl) (by kernel_rfl) (by rfl) ?_ ?_
      rotate_left
      · intro wy hSw; (try dsimp only at hSw); obtain ⟨b0, b1⟩ := hSw.cell 0 rfl; go_simp; (try with_reducible rfl)
      try simp only [Act.put, List.setIfInBounds_toArray, List.set_cons_zero, List.set_cons_succ]
      refine line_take (i := 10) (v := ?_) (by simp only [List.getElem?_toArray, List.getElem?_cons_succ, List.getElem?_cons_zero]; rfl) (by kernel_rfl) (by kernel_rfl) (by rfl) ?_ ?_
      rotate_left
      · intro wy hSw; (try dsimp only at hSw); obtain ⟨b0, b1⟩ := hSw.cell 0 rfl; go_simp; (try with_reducible rfl)
      try simp only [Act.put, List.setIfInBounds_toArray, List.set_cons_zero, List.set_cons_succ]
      refine line_take (i := 11) (v := ?_) (by simp only [List.getElem?_toArray, List.getElem?_cons_succ, List.getElem?_cons_zero]; rfl) (by kernel_rfl) (by kernel_rfl) (by rfl) ?_ ?_
      rotate_left
      · intro wy hSw; (try dsimp only at hSw); obtain ⟨b0, b1⟩ := hSw.cell 0 rfl; go_simp; (try with_reducible rfl)
      try simp only [Act.put, List.setIfInBounds_toArray, List.set_cons_zero, List.set_cons_succ]
      refine line_call (i := 12) (v := ?_) ?_ ?_ (by simp only [List.getElem?_toArray, List.getElem?_cons_succ, List.getElem?_cons_zero]; rfl) (by kernel_rfl) (by kernel_rfl) (by rfl) ?hc54 ?hv54 ?hn54
      case hv54 => intro wy hSw; go_simp; (try first | with_reducible rfl | (constructor <;> with_reducible rfl))
      case hc54 => intro wy hSw; (try dsimp only at hSw); refine Calls.mono (by with_reducible exact (HB1.out _ hSw.fact (hSw.list 3 rfl) (hSw.list 2 rfl))) ?_; rintro e9 wq ⟨rfl, hb⟩; refine ⟨?_, hSw.below hb⟩; with_reducible rfl
      try simp only [Act.put, List.setIfInBounds_toArray, List.set_cons_zero, List.set_cons_succ]
      refine line_take (i := 13) (v := ?_) (by simp only [List.getElem?_toArray, List.getElem?_cons_succ, List.getElem?_cons_zero]; rfl) (by kernel_rfl) (by kernel_rfl) (by rfl) ?_ ?_
      rotate_left
      · intro wy hSw; (try dsimp only at hSw); obtain ⟨b0, b1⟩ := hSw.cell 0 rfl; go_simp; (try with_reducible rfl)
      try simp only [Act.put, List.setIfInBounds_toArray, List.set_cons_zero, List.set_cons_succ]
      refine line_take (i := 14) (v := ?_) (by simp only [List.getElem?_toArray, List.getElem?_cons_succ, List.getElem?_cons_zero]; rfl) (by kernel_rfl) (by kernel_rfl) (by rfl) ?_ ?_
      rotate_left
      · intro wy hSw; (try dsimp only at hSw); obtain ⟨b0, b1⟩ := hSw.cell 0 rfl; go_simp; (try with_reducible rfl)
      try simp only [Act.put, List.setIfInBounds_toArray, List.set_cons_zero, List.set_cons_succ]
      refine line_take (i := 15) (v := ?_) (by simp only [List.getElem?_toArray, List.getElem?_cons_succ, List.getElem?_cons_zero]; rfl) (by kernel_rfl) (by kernel_rfl) (by rfl) ?_ ?_
      rotate_left
      · intro wy hSw; (try dsimp only at hSw); obtain ⟨b0, b1⟩ := hSw.cell 0 rfl; go_simp; (try with_reducible rfl)
      try simp only [Act.put, List.setIfInBounds_toArray, List.set_cons_zero, List.set_cons_succ]
      refine line_take (i := 16) (v := ?_) (by simp only [List.getElem?_toArray, List.getElem?_cons_succ, List.getElem?_cons_zero]; rfl) (by kernel_rfl) (by kernel_rfl) (by rfl) ?_ ?_
      rotate_left
      · intro wy hSw; (try dsimp only at hSw); obtain ⟨b0, b1⟩ := hSw.cell 0 rfl; go_simp; (try with_reducible rfl)
      try simp only [Act.put, List.setIfInBounds_toArray, List.set_cons_zero, List.set_cons_succ]
      refine line_take (i := 17) (v := ?_) (by simp only [List.getElem?_toArray, List.getElem?_cons_succ, List.getElem?_cons_zero]; rfl) (by kernel_rfl) (by kernel_rfl) (by rfl) ?_ ?_
      rotate_left
      · intro wy hSw; (try dsimp only at hSw); obtain ⟨b0, b1⟩ := hSw.cell 0 rfl; go_simp; (try with_reducible rfl)
      try simp only [Act.put, List.setIfInBounds_toArray, List.set_cons_zero, List.set_cons_succ]
      refine line_take (i := 18) (v := ?_) (by simp only [List.getElem?_toArray, List.getElem?_cons_succ, List.getElem?_cons_zero]; rfl) (by kernel_rfl) (by kernel_rfl) (by rfl) ?_ ?_
      rotate_left
      · intro wy hSw; (try dsimp only at hSw); obtain ⟨b0, b1⟩ := hSw.cell 0 rfl; go_simp; (try with_reducible rfl)
      try simp only [Act.put, List.setIfInBounds_toArray, List.set_cons_zero, List.set_cons_succ]
      refine line_call (i := 19) (v := ?_) ?_ ?_ (by simp only [List.getElem?_toArray, List.getElem?_cons_succ, List.getElem?_cons_zero]; rfl) (by kernel_rfl) (by kernel_rfl) (by rfl) ?hc55 ?hv55 ?hn55
      case hv55 => intro wy hSw; go_simp; (try first | with_reducible rfl | (constructor <;> with_reducible rfl))
      case hc55 => intro wy hSw; (try dsimp only at hSw); refine Calls.mono (by with_reducible exact (HB2.out _ hSw.fact (hSw.list 3 rfl) (hSw.list 2 rfl))) ?_; rintro e9 wq ⟨rfl, hb⟩; refine ⟨?_, hSw.below hb⟩; with_reducible rfl
      try simp only [Act.put, List.setIfInBounds_toArray, List.set_cons_zero, List.set_cons_succ]
      refine line_take (i := 20) (v := ?_) (by simp only [List.getElem?_toArray, List.getElem?_cons_succ, List.getElem?_cons_zero]; rfl) (by kernel_rfl) (by kernel_rfl) (by rfl) ?_ ?_
      rotate_left
      · intro wy hSw; (try dsimp only at hSw); obtain ⟨b0, b1⟩ := hSw.cell 0 rfl; go_simp; (try with_reducible rfl)
      try simp only [Act.put, List.setIfInBounds_toArray, List.set_cons_zero, List.set_cons_succ]
      refine line_take (i := 21) (v := ?_) (by simp only [List.getElem?_toArray, List.getElem?_cons_succ, List.getElem?_cons_zero]; rfl) (by kernel_rfl) (by kernel_rfl) (by rfl) ?_ ?_
      rotate_left
      · intro wy hSw; (try dsimp only at hSw); obtain ⟨b0, b1⟩ := hSw.cell 0 rfl; go_simp; (try with_reducible rfl)
      try simp only [Act.put, List.setIfInBounds_toArray, List.set_cons_zero, List.set_cons_succ]
      refine line_call (i := 22) (v := ?_) ?_ ?_ (by simp only [List.getElem?_toArray, List.getElem?_cons_succ, List.getElem?_cons_zero]; rfl) (by kernel_rfl) (by kernel_rfl) (by rfl) ?hc56 ?hv56 ?hn56
      case hv56 => intro wy hSw; go_simp; (try first | with_reducible rfl | (constructor <;> with_reducible rfl))
      case hc56 => intro wy hSw; (try dsimp only at hSw); refine Calls.mono (by with_reducible exact (HB3.out _ (hSw.list 3 rfl) (hSw.list 2 rfl))) ?_; rintro e9 wq ⟨rfl, hb⟩; refine ⟨?_, hSw.below hb⟩; with_reducible rfl
      try simp only [Act.put, List.setIfInBounds_toArray, List.set_cons_zero, List.set_cons_succ]
      refine line_take (i := 23) (v := ?_) (by simp only [List.getElem?_toArray, List.getElem?_cons_succ, List.getElem?_cons_zero]; rfl) (by kernel_rfl) (by kernel_rfl) (by rfl) ?_ ?_
      rotate_left
      · intro wy hSw; (try dsimp only at hSw); obtain ⟨b0, b1⟩ := hSw.cell 0 rfl; go_simp; (try with_reducible rfl)
      try simp only [Act.put, List.setIfInBounds_toArray, List.set_cons_zero, List.set_cons_succ]
      refine line_take (i := 24) (v := ?_) (by simp only [List.getElem?_toArray, List.getElem?_cons_succ, List.getElem?_cons_zero]; rfl) (by kernel_rfl) (by kernel_rfl) (by rfl) ?_ ?_
      rotate_left
      · intro wy hSw; (try dsimp only at hSw); obtain ⟨b0, b1⟩ := hSw.cell 0 rfl; go_simp; (try with_reducible rfl)
      try simp only [Act.put, List.setIfInBounds_toArray, List.set_cons_zero, List.set_cons_succ]
      refine line_take (i := 25) (v := ?_) (by simp only [List.getElem?_toArray, List.getElem?_cons_succ, List.getElem?_cons_zero]; rfl) (by kernel_rfl) (by kernel_rfl) (by rfl) ?_ ?_
      rotate_left
      · intro wy hSw; (try dsimp only at hSw); obtain ⟨b0, b1⟩ := hSw.cell 0 rfl; go_simp; (try with_reducible rfl)
      try simp only [Act.put, List.setIfInBounds_toArray, List.set_cons_zero, List.set_cons_succ]
      refine line_take (i := 26) (v := ?_) (by simp only [List.getElem?_toArray, List.getElem?_cons_succ, List.getElem?_cons_zero]; rfl) (by kernel_rfl) (by kernel_rfl) (by rfl) ?_ ?_
      rotate_left
      · intro wy hSw; (try dsimp only at hSw); obtain ⟨b0, b1⟩ := hSw.cell 0 rfl; go_simp; (try with_reducible rfl)
      try simp only [Act.put, List.setIfInBounds_toArray, List.set_cons_zero, List.set_cons_succ]
      refine line_take (i := 27) (v := ?_) (by simp only [List.getElem?_toArray, List.getElem?_cons_succ, List.getElem?_cons_zero]; rfl) (by kernel_rfl) (by kernel_rfl) (by rfl) ?_ ?_
      rotate_left
      · intro wy hSw; (try dsimp only at hSw); obtain ⟨b0, b1⟩ := hSw.cell 0 rfl; go_simp; (try with_reducible rfl)
      try simp only [Act.put, List.setIfInBounds_toArray, List.set_cons_zero, List.set_cons_succ]
      refine line_take (i := 28) (v := ?_) (by simp only [List.getElem?_toArray, List.getElem?_cons_succ, List.getElem?_cons_zero]; rfl) (by kernel_rfl) (by kernel_rfl) (by rfl) ?_ ?_
      rotate_left
      · intro wy hSw; (try dsimp only at hSw); obtain ⟨b0, b1⟩ := hSw.cell 0 rfl; go_simp; (try with_reducible rfl)
      try simp only [Act.put, List.setIfInBounds_toArray, List.set_cons_zero, List.set_cons_succ]
      refine line_take (i := 29) (v := ?_) (by simp only [List.getElem?_toArray, List.getElem?_cons_succ, List.getElem?_cons_zero]; rfl) (by kernel_rfl) (by kernel_rfl) (by rfl) ?_ ?_
      rotate_left
      · intro wy hSw; (try dsimp only at hSw); obtain ⟨b0, b1⟩ := hSw.cell 0 rfl; go_simp; (try with_reducible rfl)
      try simp only [Act.put, List.setIfInBounds_toArray, List.set_cons_zero, List.set_cons_succ]
      refine line_call (i := 30) (v := ?_) ?_ ?_ (by simp only [List.getElem?_toArray, List.getElem?_cons_succ, List.getElem?_cons_zero]; rfl) (by kernel_rfl) (by kernel_rfl) (by rfl) ?hc57 ?hv57 ?hn57
      case hv57 => intro wy hSw; go_simp; (try first | with_reducible rfl | (constructor <;> with_reducible rfl))
      case hc57 => intro wy hSw; (try dsimp only at hSw); refine Calls.mono (by with_reducible exact (HB2.out _ hSw.fact (hSw.list 3 rfl) (hSw.list 2 rfl))) ?_; rintro e9 wq ⟨rfl, hb⟩; refine ⟨?_, hSw.below hb⟩; with_reducible rfl
      try simp only [Act.put, List.setIfInBounds_toArray, List.set_cons_zero, List.set_cons_succ]
      refine line_take (i := 31) (v := ?_) (by simp only [List.getElem?_toArray, List.getElem?_cons_succ, List.getElem?_cons_zero]; rfl) (by kernel_rfl) (by kernel_rfl) (by rfl) ?_ ?_
      rotate_left
      · intro wy hSw; (try dsimp only at hSw); obtain ⟨b0, b1⟩ := hSw.cell 0 rfl; go_simp; (try with_reducible rfl)
      try simp only [Act.put, List.setIfInBounds_toArray, List.set_cons_zero, List.set_cons_succ]
      refine line_take (i := 32) (v := ?_) (by simp only [List.getElem?_toArray, List.getElem?_cons_succ, List.getElem?_cons_zero]; rfl) (by kernel_rfl) (by kernel_rfl) (by rfl) ?_ ?_
      rotate_left
      · intro wy hSw; (try dsimp only at hSw); obtain ⟨b0, b1⟩ := hSw.cell 0 rfl; go_simp; (try with_reducible rfl)
      try simp only [Act.put, List.setIfInBounds_toArray, List.set_cons_zero, List.set_cons_succ]
      refine line_take (i := 33) (v := ?_) (by simp only [List.getElem?_toArray, List.getElem?_cons_succ, List.getElem?_cons_zero]; rfl) (by kernel_rfl) (by kernel_rfl) (by rfl) ?_ ?_
      rotate_left
      · intro wy hSw; (try dsimp only at hSw); obtain ⟨b0, b1⟩ := hSw.cell 0 rfl; go_simp; (try with_reducible rfl)
      try simp only [Act.put, List.setIfInBounds_toArray, List.set_cons_zero, List.set_cons_succ]
      refine line_take (i := 34) (v := ?_) (by simp only [List.getElem?_toArray, List.getElem?_cons_succ, List.getElem?_cons_zero]; rfl) (by kernel_rfl) (by kernel_rfl) (by rfl) ?_ ?_
      rotate_left
      · intro wy hSw; (try dsimp only at hSw); obtain ⟨b0, b1⟩ := hSw.cell 0 rfl; go_simp; (try with_reducible rfl)
      try simp only [Act.put, List.setIfInBounds_toArray, List.set_cons_zero, List.set_cons_succ]
      refine line_take (i := 35) (v := ?_) (by simp only [List.getElem?_toArray, List.getElem?_cons_succ, List.getElem?_cons_zero]; rfl) (by kernel_rfl) (by kernel_rfl) (by rfl) ?_ ?_
      rotate_left
      · intro wy hSw; (try dsimp only at hSw); obtain ⟨b0, b1⟩ := hSw.cell 0 rfl; go_simp; (try with_reducible rfl)
      try simp only [Act.put, List.setIfInBounds_toArray, List.set_cons_zero, List.set_cons_succ]
      refine line_call (i := 36) (v := ?_) ?_ ?_ (by simp only [List.getElem?_toArray, List.getElem?_cons_succ, List.getElem?_cons_zero]; rfl) (by kernel_rfl) (by kernel_rfl) (by rfl) ?hc58 ?hv58 ?hn58
      case hv58 => intro wy hSw; go_simp; (try first | with_reducible rfl | (constructor <;> with_reducible rfl))
      case hc58 => intro wy hSw; (try dsimp only at hSw); refine Calls.mono (by with_reducible exact (HHA.out _ V2 k2 (hSw.list 0 rfl))) ?_; rintro e9 wq ⟨rfl, rfl⟩; refine ⟨?_, hSw⟩; with_reducible rfl
      try simp only [Act.put, List.setIfInBounds_toArray, List.set_cons_zero, List.set_cons_succ]
      refine line_take (i := 37) (v := ?_) (by simp only [List.getElem?_toArray, List.getElem?_cons_succ, List.getElem?_cons_zero]; rfl) (by kernel_rfl) (by kernel_rfl) (by rfl) ?_ ?_
      rotate_left
      · intro wy hSw; (try dsimp only at hSw); obtain ⟨b0, b1⟩ := hSw.cell 0 rfl; go_simp; (try with_reducible rfl)
      try simp only [Act.put, List.setIfInBounds_toArray, List.set_cons_zero, List.set_cons_succ]
      refine line_take (i := 38) (v := ?_) (by simp only [List.getElem?_toArray, List.getElem?_cons_succ, List.getElem?_cons_zero]; rfl) (by kernel_rfl) (by kernel_rfl) (by rfl) ?_ ?_
      rotate_left
      · intro wy hSw; (try dsimp only at hSw); obtain ⟨b0, b1⟩ := hSw.cell 0 rfl; go_simp; (try with_reducible rfl)
      try simp only [Act.put, List.setIfInBounds_toArray, List.set_cons_zero, List.set_cons_succ]
      refine line_take (i := 39) (v := ?_) (by simp only [List.getElem?_toArray, List.getElem?_cons_succ, List.getElem?_cons_zero]; rfl) (by kernel_rfl) (by kernel_rfl) (by rfl) ?_ ?_
      rotate_left
      · intro wy hSw; (try dsimp only at hSw); obtain ⟨b0, b1⟩ := hSw.cell 0 rfl; go_simp; (try with_reducible rfl)
      try simp only [Act.put, List.setIfInBounds_toArray, List.set_cons_zero, List.set_cons_succ]
      refine line_call (i := 40) (v := ?_) ?_ ?_ (by simp only [List.getElem?_toArray, List.getElem?_cons_succ, List.getElem?_cons_zero]; rfl) (by kernel_rfl) (by kernel_rfl) (by rfl) ?hc59 ?hv59 ?hn59
      case hv59 => intro wy hSw; go_simp; (try first | with_reducible rfl | (constructor <;> with_reducible rfl))
      case hc59 => intro wy hSw; (try dsimp only at hSw); refine Calls.mono (by with_reducible exact (HSU.out _ (hSw.list 3 rfl))) ?_; rintro e9 wq ⟨rfl, hb⟩; refine ⟨?_, hSw.below hb⟩; with_reducible rfl
      try simp only [Act.put, List.setIfInBounds_toArray, List.set_cons_zero, List.set_cons_succ]
      refine line_take (i := 41) (v := ?_) (by simp only [List.getElem?_toArray, List.getElem?_cons_succ, List.getElem?_cons_zero]; rfl) (by kernel_rfl) (by kernel_rfl) (by rfl) ?_ ?_
      rotate_left
      · intro wy hSw; (try dsimp only at hSw); obtain ⟨b0, b1⟩ := hSw.cell 0 rfl; go_simp; (try with_reducible rfl)
      try simp only [Act.put, List.setIfInBounds_toArray, List.set_cons_zero, List.set_cons_succ]
      refine line_take (i := 42) (v := ?_) (by simp only [List.getElem?_toArray, List.getElem?_cons_succ, List.getElem?_cons_zero]; rfl) (by kernel_rfl) (by kernel_rfl) (by rfl) ?_ ?_
      rotate_left
      · intro wy hSw; (try dsimp only at hSw); obtain ⟨b0, b1⟩ := hSw.cell 0 rfl; go_simp; (try with_reducible rfl)
      try simp only [Act.put, List.setIfInBounds_toArray, List.set_cons_zero, List.set_cons_succ]
      refine line_call (i := 43) (v := ?_) ?_ ?_ (by simp only [List.getElem?_toArray, List.getElem?_cons_succ, List.getElem?_cons_zero]; rfl) (by kernel_rfl) (by kernel_rfl) (by rfl) ?hc60 ?hv60 ?hn60
      case hv60 => intro wy hSw; go_simp; (try first | with_reducible rfl | (constructor <;> with_reducible rfl))
      case hc60 => intro wy hSw; (try dsimp only at hSw); refine Calls.mono (by with_reducible exact (HLA.out _ V2 k2 hSw.fact (hSw.list 0 rfl))) ?_; rintro e9 wq ⟨rfl, hb⟩; refine ⟨?_, hSw.below hb⟩; with_reducible rfl
      try simp only [Act.put, List.setIfInBounds_toArray, List.set_cons_zero, List.set_cons_succ]
      refine line_take (i := 44) (v := ?_) (by simp only [List.getElem?_toArray, List.getElem?_cons_succ, List.getElem?_cons_zero]; rfl) (by kernel_rfl) (by kernel_rfl) (by rfl) ?_ ?_
      rotate_left
      · intro wy hSw; (try dsimp only at hSw); obtain ⟨b0, b1⟩ := hSw.cell 0 rfl; go_simp; (try with_reducible rfl)
      try simp only [Act.put, List.setIfInBounds_toArray, List.set_cons_zero, List.set_cons_succ]
      refine line_take (i := 45) (v := ?_) (by simp only [List.getElem?_toArray, List.getElem?_cons_succ, List.getElem?_cons_zero]; rfl) (by kernel_rfl) (by kernel_rfl) (by rfl) ?_ ?_
      rotate_left
      · intro wy hSw; (try dsimp only at hSw); obtain ⟨b0, b1⟩ := hSw.cell 0 rfl; go_simp; (try with_reducible rfl)
      try simp only [Act.put, List.setIfInBounds_toArray, List.set_cons_zero, List.set_cons_succ]
      refine line_take (i := 46) (v := ?_) (by simp only [List.getElem?_toArray, List.getElem?_cons_succ, List.getElem?_cons_zero]; rfl) (by kernel_rfl) (by kernel_rfl) (by rfl) ?_ ?_
      rotate_left
      · intro wy hSw; (try dsimp only at hSw); obtain ⟨b0, b1⟩ := hSw.cell 0 rfl; go_simp; (try with_reducible rfl)
      try simp only [Act.put, List.setIfInBounds_toArray, List.set_cons_zero, List.set_cons_succ]
      refine line_take (i := 47) (v := ?_) (by simp only [List.getElem?_toArray, List.getElem?_cons_succ, List.getElem?_cons_zero]; rfl) (by kernel_rfl) (by kernel_rfl) (by rfl) ?_ ?_
      rotate_left
      · intro wy hSw; (try dsimp only at hSw); obtain ⟨b0, b1⟩ := hSw.cell 0 rfl; go_simp; (try with_reducible rfl)
      try simp only [Act.put, List.setIfInBounds_toArray, List.set_cons_zero, List.set_cons_succ]
      refine line_take (i := 48) (v := ?_) (by simp only [List.getElem?_toArray, List.getElem?_cons_succ, List.getElem?_cons_zero]; rfl) (by kernel_rfl) (by kernel_rfl) (by rfl) ?_ ?_
      rotate_left
      · intro wy hSw; (try dsimp only at hSw); obtain ⟨b0, b1⟩ := hSw.cell 0 rfl; go_simp; (try with_reducible rfl)
      try simp only [Act.put, List.setIfInBounds_toArray, List.set_cons_zero, List.set_cons_succ]
      refine Line.done (by kernel_rfl) ?_
      intro wf hSf
      have HZ := Lib.hid (Kc.only hSf (cs' := []) (ls' := []) [] [] rfl rfl)
      clear hSf HK3
      go_wp2
      go_meet
      exact ⟨rfl, HZ.out⟩
  case rest =>
    obtain ⟨rfl, hK⟩ := hcut
    have HP0 := Lib.hid hK
    clear hK HK3 HB1 HB2 HB3 HSU HBF HLA htl hts hx5 hlf2
    go_upto_if 119 with (fail)
    go_cut [] (fun wx => Kc T w wx [] [])
    case first =>
      go_wp2_with fail
      go_meet
      exact HP0.out
    case rest =>
      have HP9 := Lib.hid hcut
      clear hcut HP0
      refine (show ∀ (a' : Act) (w' : World), Code.wp Tryd.prog (dropS 6 ((Tryd.f3.body).getD .skip)) (bodyPost Tryd.prog Tryd.f3 (RetV w (.bool true))) a' w' → _ from by assumption) _ _ ?_
      exact law_bases_B T stay a len cap w hl hy HT iTight iBelow iBase iLat iCap iExch iCor iRaise iIsD iRank iNeg iVal _ _ _ _ _ _ _ _ _ _ _ _ _ _ _ _ _ _ _ _ _ _ _ _ _ _ _ _ _ _ _ _ _ _ _ _ _ _ _ _ _ _ _ _ _ _ _ _ _ _ _ _ _ _ _ _ _ _ _ _ _ _ _ _ _ _ _ _ _ _ _ _ _ _ _ _ _ _ _ _ _ _ _ _ _ _ _ _ _ _ _ _ _ _ _ _ _ _ _ _ _ _ _ _ _ _ _ _ _ _ _ _ _ _ _ _ _ _ _ _ _ _ _ _ _ _ _ _ _ _ _ _ _ _ _ _ _ _ _ _ _ _ _ _ _ _ _ _ _ _ _ _ _ _ _ _ _ _ _ _ _ _ _ _ _ _ _ _ _ _ _ _ _ _ _ _ _ _ _ _ _ _ _ _ _ _ _ _ _ _ _ _ _ _ _ _ _ _ _ _ _ _ _ _ _ _ _ _ _ _ _ _ _ _ _ _ _ _ _ _ _ _ _ _ _ _ _ _ _ _ _ _ _ _ _ _ _ _ _ _ _ _ _ _ _ _ _ _ _ _ _ _ _ _ _ _ _ _ _ _ _ _ _ _ _ _ _ _ _ _ _ _ _ _ _ _ _ _ _ _ _ _ _ _ _ _ _ _ _ _ _ _ _ _ _ _ _ _ _ _ _ _ _ _ _ _ _ _ _ _ _ _ _ _ _ _ _ _ _ _ _ _ _ _ _ _ _ _ _ _ _ _ _ _ _ _ _ _ _ _ _ _ _ _ _ _ _ _ _ _ _ _ _ _ _ _ _ _ _ _ _ _ _ _ _ _ _ _ _ _ _ _ _ _ _ _ _ _ _ _ _ _ _ _ _ _ _ _ _ _ _ _ HP9


end Go.Proofs.YtffbiflgmlabaaaDoor.C
