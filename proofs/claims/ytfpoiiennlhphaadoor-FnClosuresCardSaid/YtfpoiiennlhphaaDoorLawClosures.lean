/-
  The law of closures, walked: closures are closed, flats have their common elements, restrictions and contractions stay submodular.
-/
import Derived.Test.YtfpoiiennlhphaaDoorKc
import Derived.Test.YtfpoiiennlhphaaDoorReT
import Derived.Test.YtfpoiiennlhphaaDoorReU
import Derived.Test.YtfpoiiennlhphaaDoorFlS
namespace Go.Proofs.YtfpoiiennlhphaaDoor.C
open Go.RowKit M K
set_option linter.unusedVariables false
set_option linter.unusedSimpArgs false

set_option maxRecDepth 100000 in
set_option maxHeartbeats 40000000 in
theorem law_closures_in (T : World → Prop) (stay : ∀ W W', T W → Below W.heap.size W W' → T W') (a : Option Addr) (len cap : Nat) (w : World) (hl : len ≤ 1048576) (hy : Hid (Bytes w.heap.size w (.slice a len cap) len)) (HT : Hid (T w))
    (iClo : Hid (∀ (W : World) (n : Int) (A : Option Addr) (xs : List Int) (c : Nat) (s : Int), T W → Hid (Ints W W.heap.size A xs) → Calls Tryd.prog 8 #[.agg #[.int .i64 n, .slice A xs.length c], .int .i64 s] W (RetV W (.int .i64 (closureOf n xs s)))))
    (iFlat : Hid (∀ (W : World) (n : Int) (A : Option Addr) (xs : List Int) (c : Nat) (s : Int), T W → Hid (Ints W W.heap.size A xs) → Calls Tryd.prog 10 #[.agg #[.int .i64 n, .slice A xs.length c], .int .i64 s] W (RetV W (.bool (isFlat n xs s)))))
    (iFlats : Hid (∀ (W : World) (n : Int) (A : Option Addr) (xs : List Int) (c : Nat), T W → Hid (Ints W W.heap.size A xs) → Calls Tryd.prog 13 #[.agg #[.int .i64 n, .slice A xs.length c]] W (RetIB W (flatsOf n xs).1 (flatsOf n xs).2)))
    (iRest : Hid (∀ (W : World) (n : Int) (A : Option Addr) (xs : List Int) (c : Nat) (s : Int), T W → Hid (Ints W W.heap.size A xs) → Calls Tryd.prog 18 #[.agg #[.int .i64 n, .slice A xs.length c], .int .i64 s] W (RetFB W (restrictFn n xs s).1 (restrictFn n xs s).2.1 (restrictFn n xs s).2.2)))
    (iCont : Hid (∀ (W : World) (n : Int) (A : Option Addr) (xs : List Int) (c : Nat) (s : Int), T W → Hid (Ints W W.heap.size A xs) → Calls Tryd.prog 20 #[.agg #[.int .i64 n, .slice A xs.length c], .int .i64 s] W (RetFB W (contractFn n xs s).1 (contractFn n xs s).2.1 (contractFn n xs s).2.2)))
    (iOpp : Hid (∀ (W : World) (n : Int) (A : Option Addr) (xs : List Int) (c : Nat), T W → Hid (Ints W W.heap.size A xs) → Calls Tryd.prog 27 #[.agg #[.int .i64 n, .slice A xs.length c]] W (RetFB W (oppositeFn n xs).1 (oppositeFn n xs).2.1 (oppositeFn n xs).2.2)))
    (iDual : Hid (∀ (W : World) (n : Int) (A : Option Addr) (xs : List Int) (c : Nat) (D : Option Addr) (ws : List Int) (d : Nat), T W → Hid (Ints W W.heap.size A xs) → Hid (Ints W W.heap.size D ws) → Calls Tryd.prog 30 #[.agg #[.int .i64 n, .slice A xs.length c], .slice D ws.length d] W (RetFB W (dualFn n xs ws).1 (dualFn n xs ws).2.1 (dualFn n xs ws).2.2))) :
    Calls Tryd.prog 3 #[.slice a len cap] w (RetV w (.bool true)) := by
  have hbd : decide ((1048576 : Int) < (len : Int)) = false := by simp; omega
  have HK0 := Lib.hid (show Kc T w w [] [] from ⟨Below.refl _ _, (fun _ h => by cases h), (fun _ h => by cases h), HT.out, stay⟩)
  have HY := Lib.hid (fun (W : World) (h : Below w.heap.size w W) => bytes_at5 hy h)
  go_enter Tryd.func3, Tryd.ntmps3
  go_wp2_with fail
  refine (big_any5 _ _ _ _ (by omega)).mono ?_
  rw [hbd]
  rintro e w' ⟨rfl, rfl⟩
  clear hbd
  go_wp2_with fail
  refine (cdraw_got _ len _ hl (HY.out _ HK0.out.base)).mono ?_
  rintro e w1 ⟨_, nf, f, s, rfl, -, ⟨Af, cf, rfl, ho, hlf⟩, hb⟩
  have HK1 := Lib.hid (((HK0.out.below hb).put ho.read).box nf (.slice Af f.length cf) 26)
  clear ho hb HK0
  have HC0 := Lib.hid (fun W (h0 : T W) (h1 : Ints W W.heap.size Af f) => iClo.out W nf Af f cf s h0 (Lib.hid h1))
  have HC1 := Lib.hid (fun W (h1 : Ints W W.heap.size Af f) => cloS_any nf Af f cf s W (Lib.hid h1))
  have HFC := Lib.hid (fun h => closure_facts (n := nf) (xs := f) (s := s) h)
  have hcb := cell_facts (n := nf) (xs := f) (s := s) hlf.2
  obtain ⟨c, hc⟩ : ∃ c, closureOf nf f s = c := ⟨_, rfl⟩
  rw [hc] at HC0 HC1 HFC hcb
  clear hc hlf
  go_wp2_with fail
  refine (HC0.out _ HK1.out.fact (HK1.out.list 0 rfl)).mono ?_
  rintro e w2 ⟨rfl, hb⟩
  have HK2 := Lib.hid (HK1.out.below hb)
  clear hb HK1 HC0
  go_upto_region 5 with (fail)
  go_cut [83] (fun s83 wx => s83 = .bool false ∧ Kc T w wx [] [])
  case first =>
    have hk0 := HK2.out
    have hkd := hk0.drew
    obtain ⟨b00, b01⟩ := hk0.cell 0 rfl
    by_cases hg : 0 ≤ c
    · obtain ⟨C, S, rfl, rfl, hC, hS, hand, hcc, hfl, hval⟩ := HFC.out hg
      have hbits : bits .and .i64 (C : Int) (S : Int) = (S : Int) := by rw [and_two C S (by omega) (by omega), hand]
      have HC2 := Lib.hid (fun W (h0 : T W) (h1 : Ints W W.heap.size Af f) => iClo.out W nf Af f cf (C : Int) h0 (Lib.hid h1))
      rw [hcc] at HC2
      have HFL := Lib.hid (fun W (h0 : T W) (h1 : Ints W W.heap.size Af f) => iFlat.out W nf Af f cf (C : Int) h0 (Lib.hid h1))
      rw [hfl] at HFL
      have HV1 := Lib.hid (fun W (h1 : Ints W W.heap.size Af f) => valI_any nf Af f cf (C : Int) W (Lib.hid h1))
      have HV2 := Lib.hid (fun W (h1 : Ints W W.heap.size Af f) => valI_any nf Af f cf (S : Int) W (Lib.hid h1))
      rw [hval] at HV1
      have hvb := val_bd5 nf f (S : Int)
      generalize valueOf nf f (S : Int) = V at HV1 HV2 hvb
      have hgd : decide (0 ≤ (C : Int)) = true := decide_eq_true hg
      clear HFC hand hcc hfl hval hC hS
      as_aux_lemma =>
        refine wp_region_held_drew (S := (fun w' => w'.cell? ⟨w1.heap.size, 0, none⟩ = some (.int .i64 nf) ∧ w'.cell? ⟨w1.heap.size, 1, none⟩ = some (.slice Af f.length cf) ∧ Kc T w w' [(w1.heap.size, nf, .slice Af f.length cf)] [(Af, f)])) (by kernel_rfl) ?_ (fun hHeld => ?_)
        · refine ⟨?_, ?_, ?_⟩ <;> (first | assumption)
        refine wpAnyH_take (i := 0) (oi := { dst := some 46, op := Op.move (Operand.tmp 5), type := 3, pos := "laws.go:318", after := #[], guard := none }) (v := ?_) rfl (by kernel_rfl) (by kernel_rfl) (by kernel_rfl) (fun _ _ _ h => h) (Or.inl ⟨by rfl, ?_⟩) (by assumption) ?_
        rotate_left
        · intro wy hSw; (try dsimp only at hSw); go_simp; (try with_reducible rfl)
        try simp only [Act.put, List.setIfInBounds_toArray, List.set_cons_zero, List.set_cons_succ]
        refine wpAnyH_take (i := 1) (oi := { dst := some 47, op := Op.load 26 (Operand.tmp 3), type := 26, pos := "laws.go:318", after := #[], guard := none }) (v := ?_) rfl (by kernel_rfl) (by kernel_rfl) (by kernel_rfl) (fun _ _ _ h => h) (Or.inl ⟨by rfl, ?_⟩) (by assumption) ?_
        rotate_left
        · intro wy hSw; (try dsimp only at hSw); go_simp; (try with_reducible rfl)
        try simp only [Act.put, List.setIfInBounds_toArray, List.set_cons_zero, List.set_cons_succ]
        refine wpAnyH_take (i := 2) (oi := { dst := some 48, op := Op.move (Operand.tmp 4), type := 3, pos := "laws.go:318", after := #[], guard := none }) (v := ?_) rfl (by kernel_rfl) (by kernel_rfl) (by kernel_rfl) (fun _ _ _ h => h) (Or.inl ⟨by rfl, ?_⟩) (by assumption) ?_
        rotate_left
        · intro wy hSw; (try dsimp only at hSw); go_simp; (try with_reducible rfl)
        try simp only [Act.put, List.setIfInBounds_toArray, List.set_cons_zero, List.set_cons_succ]
        refine wpAnyH_ready (rs := [3]) (by kernel_rfl) (by simp) ?_
        refine AllReadyH.cons (o := { dst := some 49, op := Op.call { callee := Callee.value (Operand.func 9), args := #[Operand.tmp 47, Operand.tmp 48], argTypes := #[26, 3] }, type := 3, pos := "laws.go:318", after := #[{ on := 1, ground := Ground.data }, { on := 2, ground := Ground.data }], guard := none }) rfl (fun K1 hK1 => ?_) ?_
        · go_simp
          (refine (HC1.out _ ?_).mono ?_; exact Kc.list (w0 := w) (cs := [(w1.heap.size, nf, .slice Af f.length cf)]) (ls := [(Af, f)]) (by assumption) 0 rfl; rintro e wq ⟨rfl, hb⟩; have hkn : Kc T w wq [(w1.heap.size, nf, .slice Af f.length cf)] [(Af, f)] := Kc.below (by assumption) hb; obtain ⟨c00, c01⟩ := hkn.cell 0 rfl; clear hb)
          try go_wp2_with fail
          refine hK1.out _ _ ?_ (fun hHeld => ?_)
          · (try dsimp only); (refine ⟨?_, ?_, ?_⟩ <;> (first | assumption))
          clear hK1 K1
          try simp only [Act.put, List.setIfInBounds_toArray, List.set_cons_zero, List.set_cons_succ]
          refine wpAnyH_take (i := 4) (oi := { dst := some 50, op := Op.binOp BinOp.neq 3 (Operand.tmp 46) (Operand.tmp 49) 3, type := 4, pos := "laws.go:318", after := #[{ on := 0, ground := Ground.data }, { on := 3, ground := Ground.data }], guard := none }) (v := ?_) rfl (by kernel_rfl) (by kernel_rfl) (by kernel_rfl) (fun _ _ _ h => h) (Or.inl ⟨by rfl, ?_⟩) (by assumption) ?_
          rotate_left
          · intro wy hSw; (try dsimp only at hSw); go_simp; (try with_reducible rfl)
          try simp only [Act.put, List.setIfInBounds_toArray, List.set_cons_zero, List.set_cons_succ]
          refine wpAnyH_take (i := 5) (oi := { dst := some 51, op := Op.move (Operand.tmp 50), type := 4, pos := "laws.go:318", after := #[{ on := 4, ground := Ground.data }, { on := 3, ground := Ground.chain }], guard := none }) (v := ?_) rfl (by kernel_rfl) (by kernel_rfl) (by kernel_rfl) (fun _ _ _ h => h) (Or.inl ⟨by rfl, ?_⟩) (by assumption) ?_
          rotate_left
          · intro wy hSw; (try dsimp only at hSw); go_simp; (try with_reducible rfl)
          try simp only [Act.put, List.setIfInBounds_toArray, List.set_cons_zero, List.set_cons_succ]
          refine wpAnyH_take (i := 6) (oi := { dst := some 52, op := Op.move (Operand.tmp 5), type := 3, pos := "laws.go:318", after := #[{ on := 5, ground := Ground.guard }], guard := some (5, false) }) (v := ?_) rfl (by kernel_rfl) (by kernel_rfl) (by kernel_rfl) (fun _ _ _ h => h) (Or.inl ⟨by rfl, ?_⟩) (by assumption) ?_
          rotate_left
          · intro wy hSw; (try dsimp only at hSw); go_simp; (try with_reducible rfl)
          try simp only [Act.put, List.setIfInBounds_toArray, List.set_cons_zero, List.set_cons_succ]
          refine wpAnyH_take (i := 7) (oi := { dst := some 53, op := Op.binOp BinOp.geq 3 (Operand.tmp 52) (Operand.const (Value.int IntKind.i64 0)) 3, type := 4, pos := "laws.go:318", after := #[{ on := 6, ground := Ground.data }, { on := 5, ground := Ground.guard }], guard := some (5, false) }) (v := ?_) rfl (by kernel_rfl) (by kernel_rfl) (by kernel_rfl) (fun _ _ _ h => h) (Or.inl ⟨by rfl, ?_⟩) (by assumption) ?_
          rotate_left
          · intro wy hSw; (try dsimp only at hSw); go_simp; (try with_reducible rfl)
          try simp only [Act.put, List.setIfInBounds_toArray, List.set_cons_zero, List.set_cons_succ]
          refine wpAnyH_take (i := 8) (oi := { dst := some 54, op := Op.move (Operand.tmp 53), type := 4, pos := "laws.go:318", after := #[{ on := 7, ground := Ground.data }, { on := 5, ground := Ground.chain }, { on := 5, ground := Ground.guard }], guard := some (5, false) }) (v := ?_) rfl (by kernel_rfl) (by kernel_rfl) (by kernel_rfl) (fun _ _ _ h => h) (Or.inl ⟨by rfl, ?_⟩) (by assumption) ?_
          rotate_left
          · intro wy hSw; (try dsimp only at hSw); go_simp; (try with_reducible rfl)
          try simp only [Act.put, List.setIfInBounds_toArray, List.set_cons_zero, List.set_cons_succ]
          refine wpAnyH_take (i := 9) (oi := { dst := some 55, op := Op.move (Operand.tmp 5), type := 3, pos := "laws.go:318", after := #[{ on := 8, ground := Ground.guard }], guard := some (8, true) }) (v := ?_) rfl (by kernel_rfl) (by kernel_rfl) (by kernel_rfl) (fun _ _ _ h => h) (Or.inl ⟨by rfl, ?_⟩) (by assumption) ?_
          rotate_left
          · intro wy hSw; (try dsimp only at hSw); go_simp; (try with_reducible rfl)
          try simp only [Act.put, List.setIfInBounds_toArray, List.set_cons_zero, List.set_cons_succ]
          refine wpAnyH_take (i := 10) (oi := { dst := some 56, op := Op.move (Operand.tmp 4), type := 3, pos := "laws.go:318", after := #[{ on := 8, ground := Ground.guard }], guard := some (8, true) }) (v := ?_) rfl (by kernel_rfl) (by kernel_rfl) (by kernel_rfl) (fun _ _ _ h => h) (Or.inl ⟨by rfl, ?_⟩) (by assumption) ?_
          rotate_left
          · intro wy hSw; (try dsimp only at hSw); go_simp; (try with_reducible rfl)
          try simp only [Act.put, List.setIfInBounds_toArray, List.set_cons_zero, List.set_cons_succ]
          refine wpAnyH_take (i := 11) (oi := { dst := some 57, op := Op.binOp BinOp.and 3 (Operand.tmp 55) (Operand.tmp 56) 3, type := 3, pos := "laws.go:318", after := #[{ on := 9, ground := Ground.data }, { on := 10, ground := Ground.data }, { on := 8, ground := Ground.guard }], guard := some (8, true) }) (v := ?_) rfl (by kernel_rfl) (by kernel_rfl) (by kernel_rfl) (fun _ _ _ h => h) (Or.inl ⟨by rfl, ?_⟩) (by assumption) ?_
          rotate_left
          · intro wy hSw; (try dsimp only at hSw); go_simp; (try with_reducible rfl)
          try simp only [Act.put, List.setIfInBounds_toArray, List.set_cons_zero, List.set_cons_succ]
          refine wpAnyH_take (i := 12) (oi := { dst := some 58, op := Op.move (Operand.tmp 4), type := 3, pos := "laws.go:318", after := #[{ on := 8, ground := Ground.guard }], guard := some (8, true) }) (v := ?_) rfl (by kernel_rfl) (by kernel_rfl) (by kernel_rfl) (fun _ _ _ h => h) (Or.inl ⟨by rfl, ?_⟩) (by assumption) ?_
          rotate_left
          · intro wy hSw; (try dsimp only at hSw); go_simp; (try with_reducible rfl)
          try simp only [Act.put, List.setIfInBounds_toArray, List.set_cons_zero, List.set_cons_succ]
          refine wpAnyH_take (i := 13) (oi := { dst := some 59, op := Op.binOp BinOp.neq 3 (Operand.tmp 57) (Operand.tmp 58) 3, type := 4, pos := "laws.go:318", after := #[{ on := 11, ground := Ground.data }, { on := 12, ground := Ground.data }, { on := 8, ground := Ground.guard }], guard := some (8, true) }) (v := ?_) rfl (by kernel_rfl) (by kernel_rfl) (by kernel_rfl) (fun _ _ _ h => h) (Or.inl ⟨by rfl, ?_⟩) (by assumption) ?_
          rotate_left
          · intro wy hSw; (try dsimp only at hSw); go_simp; (try with_reducible rfl)
          try simp only [Act.put, List.setIfInBounds_toArray, List.set_cons_zero, List.set_cons_succ]
          refine wpAnyH_take (i := 14) (oi := { dst := some 60, op := Op.move (Operand.tmp 59), type := 4, pos := "laws.go:318", after := #[{ on := 13, ground := Ground.data }, { on := 8, ground := Ground.chain }, { on := 8, ground := Ground.guard }], guard := some (8, true) }) (v := ?_) rfl (by kernel_rfl) (by kernel_rfl) (by kernel_rfl) (fun _ _ _ h => h) (Or.inl ⟨by rfl, ?_⟩) (by assumption) ?_
          rotate_left
          · intro wy hSw; (try dsimp only at hSw); go_simp; (try with_reducible rfl)
          try simp only [Act.put, List.setIfInBounds_toArray, List.set_cons_zero, List.set_cons_succ]
          refine wpAnyH_take (i := 15) (oi := { dst := some 61, op := Op.load 26 (Operand.tmp 3), type := 26, pos := "laws.go:318", after := #[{ on := 14, ground := Ground.guard }], guard := some (14, false) }) (v := ?_) rfl (by kernel_rfl) (by kernel_rfl) (by kernel_rfl) (fun _ _ _ h => h) (Or.inl ⟨by rfl, ?_⟩) (by assumption) ?_
          rotate_left
          · intro wy hSw; (try dsimp only at hSw); go_simp; (try with_reducible rfl)
          try simp only [Act.put, List.setIfInBounds_toArray, List.set_cons_zero, List.set_cons_succ]
          refine wpAnyH_take (i := 16) (oi := { dst := some 62, op := Op.move (Operand.tmp 5), type := 3, pos := "laws.go:318", after := #[{ on := 14, ground := Ground.guard }], guard := some (14, false) }) (v := ?_) rfl (by kernel_rfl) (by kernel_rfl) (by kernel_rfl) (fun _ _ _ h => h) (Or.inl ⟨by rfl, ?_⟩) (by assumption) ?_
          rotate_left
          · intro wy hSw; (try dsimp only at hSw); go_simp; (try with_reducible rfl)
          try simp only [Act.put, List.setIfInBounds_toArray, List.set_cons_zero, List.set_cons_succ]
          refine wpAnyH_take (i := 18) (oi := { dst := some 64, op := Op.move (Operand.tmp 5), type := 3, pos := "laws.go:318", after := #[{ on := 14, ground := Ground.guard }], guard := some (14, false) }) (v := ?_) rfl (by kernel_rfl) (by kernel_rfl) (by kernel_rfl) (fun _ _ _ h => h) (Or.inl ⟨by rfl, ?_⟩) (by assumption) ?_
          rotate_left
          · intro wy hSw; (try dsimp only at hSw); go_simp; (try with_reducible rfl)
          try simp only [Act.put, List.setIfInBounds_toArray, List.set_cons_zero, List.set_cons_succ]
          refine wpAnyH_ready (rs := [17]) (by kernel_rfl) (by simp) ?_
          refine AllReadyH.cons (o := { dst := some 63, op := Op.call { callee := Callee.value (Operand.func 8), args := #[Operand.tmp 61, Operand.tmp 62], argTypes := #[26, 3] }, type := 3, pos := "laws.go:318", after := #[{ on := 15, ground := Ground.data }, { on := 16, ground := Ground.data }, { on := 14, ground := Ground.chain }, { on := 14, ground := Ground.guard }], guard := some (14, false) }) rfl (fun K2 hK2 => ?_) ?_
          · go_simp
            (refine (HC2.out _ ?_ ?_).mono ?_; exact Kc.fact (w0 := w) (cs := [(w1.heap.size, nf, .slice Af f.length cf)]) (ls := [(Af, f)]) (by assumption); exact Kc.list (w0 := w) (cs := [(w1.heap.size, nf, .slice Af f.length cf)]) (ls := [(Af, f)]) (by assumption) 0 rfl; rintro e wq ⟨rfl, hb⟩; have hkn : Kc T w wq [(w1.heap.size, nf, .slice Af f.length cf)] [(Af, f)] := Kc.below (by assumption) hb; obtain ⟨c00, c01⟩ := hkn.cell 0 rfl; clear hb)
            try go_wp2_with fail
            refine hK2.out _ _ ?_ (fun hHeld => ?_)
            · (try dsimp only); (refine ⟨?_, ?_, ?_⟩ <;> (first | assumption))
            clear hK2 K2
            try simp only [Act.put, List.setIfInBounds_toArray, List.set_cons_zero, List.set_cons_succ]
            refine wpAnyH_take (i := 19) (oi := { dst := some 65, op := Op.binOp BinOp.neq 3 (Operand.tmp 63) (Operand.tmp 64) 3, type := 4, pos := "laws.go:318", after := #[{ on := 17, ground := Ground.data }, { on := 18, ground := Ground.data }, { on := 14, ground := Ground.guard }], guard := some (14, false) }) (v := ?_) rfl (by kernel_rfl) (by kernel_rfl) (by kernel_rfl) (fun _ _ _ h => h) (Or.inl ⟨by rfl, ?_⟩) (by assumption) ?_
            rotate_left
            · intro wy hSw; (try dsimp only at hSw); go_simp; (try with_reducible rfl)
            try simp only [Act.put, List.setIfInBounds_toArray, List.set_cons_zero, List.set_cons_succ]
            refine wpAnyH_take (i := 20) (oi := { dst := some 66, op := Op.pick (Operand.tmp 60) (Operand.const (Value.bool true)) (Operand.tmp 65), type := 4, pos := "laws.go:318", after := #[{ on := 14, ground := Ground.data }, { on := 19, ground := Ground.data }, { on := 8, ground := Ground.guard }], guard := some (8, true) }) (v := ?_) rfl (by kernel_rfl) (by kernel_rfl) (by kernel_rfl) (fun _ _ _ h => h) (Or.inl ⟨by rfl, ?_⟩) (by assumption) ?_
            rotate_left
            · intro wy hSw; (try dsimp only at hSw); go_simp; (try with_reducible rfl)
            try simp only [Act.put, List.setIfInBounds_toArray, List.set_cons_zero, List.set_cons_succ]
            refine wpAnyH_take (i := 21) (oi := { dst := some 67, op := Op.move (Operand.tmp 66), type := 4, pos := "laws.go:318", after := #[{ on := 20, ground := Ground.data }, { on := 17, ground := Ground.chain }, { on := 8, ground := Ground.guard }], guard := some (8, true) }) (v := ?_) rfl (by kernel_rfl) (by kernel_rfl) (by kernel_rfl) (fun _ _ _ h => h) (Or.inl ⟨by rfl, ?_⟩) (by assumption) ?_
            rotate_left
            · intro wy hSw; (try dsimp only at hSw); go_simp; (try with_reducible rfl)
            try simp only [Act.put, List.setIfInBounds_toArray, List.set_cons_zero, List.set_cons_succ]
            refine wpAnyH_take (i := 22) (oi := { dst := some 68, op := Op.load 26 (Operand.tmp 3), type := 26, pos := "laws.go:318", after := #[{ on := 21, ground := Ground.guard }], guard := some (21, false) }) (v := ?_) rfl (by kernel_rfl) (by kernel_rfl) (by kernel_rfl) (fun _ _ _ h => h) (Or.inl ⟨by rfl, ?_⟩) (by assumption) ?_
            rotate_left
            · intro wy hSw; (try dsimp only at hSw); go_simp; (try with_reducible rfl)
            try simp only [Act.put, List.setIfInBounds_toArray, List.set_cons_zero, List.set_cons_succ]
            refine wpAnyH_take (i := 23) (oi := { dst := some 69, op := Op.move (Operand.tmp 5), type := 3, pos := "laws.go:318", after := #[{ on := 21, ground := Ground.guard }], guard := some (21, false) }) (v := ?_) rfl (by kernel_rfl) (by kernel_rfl) (by kernel_rfl) (fun _ _ _ h => h) (Or.inl ⟨by rfl, ?_⟩) (by assumption) ?_
            rotate_left
            · intro wy hSw; (try dsimp only at hSw); go_simp; (try with_reducible rfl)
            try simp only [Act.put, List.setIfInBounds_toArray, List.set_cons_zero, List.set_cons_succ]
            refine wpAnyH_ready (rs := [24]) (by kernel_rfl) (by simp) ?_
            refine AllReadyH.cons (o := { dst := some 70, op := Op.call { callee := Callee.value (Operand.func 10), args := #[Operand.tmp 68, Operand.tmp 69], argTypes := #[26, 3] }, type := 4, pos := "laws.go:318", after := #[{ on := 22, ground := Ground.data }, { on := 23, ground := Ground.data }, { on := 21, ground := Ground.chain }, { on := 21, ground := Ground.guard }], guard := some (21, false) }) rfl (fun K3 hK3 => ?_) ?_
            · go_simp
              (refine (HFL.out _ ?_ ?_).mono ?_; exact Kc.fact (w0 := w) (cs := [(w1.heap.size, nf, .slice Af f.length cf)]) (ls := [(Af, f)]) (by assumption); exact Kc.list (w0 := w) (cs := [(w1.heap.size, nf, .slice Af f.length cf)]) (ls := [(Af, f)]) (by assumption) 0 rfl; rintro e wq ⟨rfl, hb⟩; have hkn : Kc T w wq [(w1.heap.size, nf, .slice Af f.length cf)] [(Af, f)] := Kc.below (by assumption) hb; obtain ⟨c00, c01⟩ := hkn.cell 0 rfl; clear hb)
              try go_wp2_with fail
              refine hK3.out _ _ ?_ (fun hHeld => ?_)
              · (try dsimp only); (refine ⟨?_, ?_, ?_⟩ <;> (first | assumption))
              clear hK3 K3
              try simp only [Act.put, List.setIfInBounds_toArray, List.set_cons_zero, List.set_cons_succ]
              refine wpAnyH_take (i := 25) (oi := { dst := some 71, op := Op.unOp UnOp.not 4 (Operand.tmp 70), type := 4, pos := "laws.go:318", after := #[{ on := 24, ground := Ground.data }, { on := 21, ground := Ground.guard }], guard := some (21, false) }) (v := ?_) rfl (by kernel_rfl) (by kernel_rfl) (by kernel_rfl) (fun _ _ _ h => h) (Or.inl ⟨by rfl, ?_⟩) (by assumption) ?_
              rotate_left
              · intro wy hSw; (try dsimp only at hSw); go_simp; (try with_reducible rfl)
              try simp only [Act.put, List.setIfInBounds_toArray, List.set_cons_zero, List.set_cons_succ]
              refine wpAnyH_take (i := 26) (oi := { dst := some 72, op := Op.pick (Operand.tmp 67) (Operand.const (Value.bool true)) (Operand.tmp 71), type := 4, pos := "laws.go:318", after := #[{ on := 21, ground := Ground.data }, { on := 25, ground := Ground.data }, { on := 8, ground := Ground.guard }], guard := some (8, true) }) (v := ?_) rfl (by kernel_rfl) (by kernel_rfl) (by kernel_rfl) (fun _ _ _ h => h) (Or.inl ⟨by rfl, ?_⟩) (by assumption) ?_
              rotate_left
              · intro wy hSw; (try dsimp only at hSw); go_simp; (try with_reducible rfl)
              try simp only [Act.put, List.setIfInBounds_toArray, List.set_cons_zero, List.set_cons_succ]
              refine wpAnyH_take (i := 27) (oi := { dst := some 73, op := Op.move (Operand.tmp 72), type := 4, pos := "laws.go:318", after := #[{ on := 26, ground := Ground.data }, { on := 24, ground := Ground.chain }, { on := 8, ground := Ground.guard }], guard := some (8, true) }) (v := ?_) rfl (by kernel_rfl) (by kernel_rfl) (by kernel_rfl) (fun _ _ _ h => h) (Or.inl ⟨by rfl, ?_⟩) (by assumption) ?_
              rotate_left
              · intro wy hSw; (try dsimp only at hSw); go_simp; (try with_reducible rfl)
              try simp only [Act.put, List.setIfInBounds_toArray, List.set_cons_zero, List.set_cons_succ]
              refine wpAnyH_take (i := 28) (oi := { dst := some 74, op := Op.load 26 (Operand.tmp 3), type := 26, pos := "laws.go:318", after := #[{ on := 27, ground := Ground.guard }], guard := some (27, false) }) (v := ?_) rfl (by kernel_rfl) (by kernel_rfl) (by kernel_rfl) (fun _ _ _ h => h) (Or.inl ⟨by rfl, ?_⟩) (by assumption) ?_
              rotate_left
              · intro wy hSw; (try dsimp only at hSw); go_simp; (try with_reducible rfl)
              try simp only [Act.put, List.setIfInBounds_toArray, List.set_cons_zero, List.set_cons_succ]
              refine wpAnyH_take (i := 29) (oi := { dst := some 75, op := Op.move (Operand.tmp 5), type := 3, pos := "laws.go:318", after := #[{ on := 27, ground := Ground.guard }], guard := some (27, false) }) (v := ?_) rfl (by kernel_rfl) (by kernel_rfl) (by kernel_rfl) (fun _ _ _ h => h) (Or.inl ⟨by rfl, ?_⟩) (by assumption) ?_
              rotate_left
              · intro wy hSw; (try dsimp only at hSw); go_simp; (try with_reducible rfl)
              try simp only [Act.put, List.setIfInBounds_toArray, List.set_cons_zero, List.set_cons_succ]
              refine wpAnyH_take (i := 31) (oi := { dst := some 77, op := Op.load 26 (Operand.tmp 3), type := 26, pos := "laws.go:318", after := #[{ on := 27, ground := Ground.guard }], guard := some (27, false) }) (v := ?_) rfl (by kernel_rfl) (by kernel_rfl) (by kernel_rfl) (fun _ _ _ h => h) (Or.inl ⟨by rfl, ?_⟩) (by assumption) ?_
              rotate_left
              · intro wy hSw; (try dsimp only at hSw); go_simp; (try with_reducible rfl)
              try simp only [Act.put, List.setIfInBounds_toArray, List.set_cons_zero, List.set_cons_succ]
              refine wpAnyH_take (i := 32) (oi := { dst := some 78, op := Op.move (Operand.tmp 4), type := 3, pos := "laws.go:318", after := #[{ on := 27, ground := Ground.guard }], guard := some (27, false) }) (v := ?_) rfl (by kernel_rfl) (by kernel_rfl) (by kernel_rfl) (fun _ _ _ h => h) (Or.inl ⟨by rfl, ?_⟩) (by assumption) ?_
              rotate_left
              · intro wy hSw; (try dsimp only at hSw); go_simp; (try with_reducible rfl)
              try simp only [Act.put, List.setIfInBounds_toArray, List.set_cons_zero, List.set_cons_succ]
              refine wpAnyH_ready (rs := [30]) (by kernel_rfl) (by simp) ?_
              refine AllReadyH.cons (o := { dst := some 76, op := Op.call { callee := Callee.value (Operand.func 11), args := #[Operand.tmp 74, Operand.tmp 75], argTypes := #[26, 3] }, type := 3, pos := "laws.go:318", after := #[{ on := 28, ground := Ground.data }, { on := 29, ground := Ground.data }, { on := 27, ground := Ground.chain }, { on := 27, ground := Ground.guard }], guard := some (27, false) }) rfl (fun K4 hK4 => ?_) ?_
              · go_simp
                (refine (HV1.out _ ?_).mono ?_; exact Kc.list (w0 := w) (cs := [(w1.heap.size, nf, .slice Af f.length cf)]) (ls := [(Af, f)]) (by assumption) 0 rfl; rintro e wq ⟨rfl, hb⟩; have hkn : Kc T w wq [(w1.heap.size, nf, .slice Af f.length cf)] [(Af, f)] := Kc.below (by assumption) hb; obtain ⟨c00, c01⟩ := hkn.cell 0 rfl; clear hb)
                try go_wp2_with fail
                refine hK4.out _ _ ?_ (fun hHeld => ?_)
                · (try dsimp only); (refine ⟨?_, ?_, ?_⟩ <;> (first | assumption))
                clear hK4 K4
                try simp only [Act.put, List.setIfInBounds_toArray, List.set_cons_zero, List.set_cons_succ]
                refine wpAnyH_ready (rs := [33]) (by kernel_rfl) (by simp) ?_
                refine AllReadyH.cons (o := { dst := some 79, op := Op.call { callee := Callee.value (Operand.func 11), args := #[Operand.tmp 77, Operand.tmp 78], argTypes := #[26, 3] }, type := 3, pos := "laws.go:318", after := #[{ on := 31, ground := Ground.data }, { on := 32, ground := Ground.data }, { on := 30, ground := Ground.chain }, { on := 27, ground := Ground.guard }], guard := some (27, false) }) rfl (fun K5 hK5 => ?_) ?_
                · go_simp
                  (refine (HV2.out _ ?_).mono ?_; exact Kc.list (w0 := w) (cs := [(w1.heap.size, nf, .slice Af f.length cf)]) (ls := [(Af, f)]) (by assumption) 0 rfl; rintro e wq ⟨rfl, hb⟩; have hkn : Kc T w wq [(w1.heap.size, nf, .slice Af f.length cf)] [(Af, f)] := Kc.below (by assumption) hb; obtain ⟨c00, c01⟩ := hkn.cell 0 rfl; clear hb)
                  try go_wp2_with fail
                  refine hK5.out _ _ ?_ (fun hHeld => ?_)
                  · (try dsimp only); (refine ⟨?_, ?_, ?_⟩ <;> (first | assumption))
                  clear hK5 K5
                  try simp only [Act.put, List.setIfInBounds_toArray, List.set_cons_zero, List.set_cons_succ]
                  refine wpAnyH_take (i := 34) (oi := { dst := some 80, op := Op.binOp BinOp.neq 3 (Operand.tmp 76) (Operand.tmp 79) 3, type := 4, pos := "laws.go:318", after := #[{ on := 30, ground := Ground.data }, { on := 33, ground := Ground.data }, { on := 27, ground := Ground.guard }], guard := some (27, false) }) (v := ?_) rfl (by kernel_rfl) (by kernel_rfl) (by kernel_rfl) (fun _ _ _ h => h) (Or.inl ⟨by rfl, ?_⟩) (by assumption) ?_
                  rotate_left
                  · intro wy hSw; (try dsimp only at hSw); go_simp; (try with_reducible rfl)
                  try simp only [Act.put, List.setIfInBounds_toArray, List.set_cons_zero, List.set_cons_succ]
                  refine wpAnyH_take (i := 35) (oi := { dst := some 81, op := Op.pick (Operand.tmp 73) (Operand.const (Value.bool true)) (Operand.tmp 80), type := 4, pos := "laws.go:318", after := #[{ on := 27, ground := Ground.data }, { on := 34, ground := Ground.data }, { on := 8, ground := Ground.guard }], guard := some (8, true) }) (v := ?_) rfl (by kernel_rfl) (by kernel_rfl) (by kernel_rfl) (fun _ _ _ h => h) (Or.inl ⟨by rfl, ?_⟩) (by assumption) ?_
                  rotate_left
                  · intro wy hSw; (try dsimp only at hSw); go_simp; (try with_reducible rfl)
                  try simp only [Act.put, List.setIfInBounds_toArray, List.set_cons_zero, List.set_cons_succ]
                  refine wpAnyH_take (i := 36) (oi := { dst := some 82, op := Op.pick (Operand.tmp 54) (Operand.tmp 81) (Operand.const (Value.bool false)), type := 4, pos := "laws.go:318", after := #[{ on := 8, ground := Ground.data }, { on := 35, ground := Ground.data }, { on := 5, ground := Ground.guard }], guard := some (5, false) }) (v := ?_) rfl (by kernel_rfl) (by kernel_rfl) (by kernel_rfl) (fun _ _ _ h => h) (Or.inl ⟨by rfl, ?_⟩) (by assumption) ?_
                  rotate_left
                  · intro wy hSw; (try dsimp only at hSw); go_simp; (try with_reducible rfl)
                  try simp only [Act.put, List.setIfInBounds_toArray, List.set_cons_zero, List.set_cons_succ]
                  refine wpAnyH_take (i := 37) (oi := { dst := some 83, op := Op.pick (Operand.tmp 51) (Operand.const (Value.bool true)) (Operand.tmp 82), type := 4, pos := "laws.go:318", after := #[{ on := 5, ground := Ground.data }, { on := 36, ground := Ground.data }], guard := none }) (v := ?_) rfl (by kernel_rfl) (by kernel_rfl) (by kernel_rfl) (fun _ _ _ h => h) (Or.inl ⟨by rfl, ?_⟩) (by assumption) ?_
                  rotate_left
                  · intro wy hSw; (try dsimp only at hSw); go_simp; (try with_reducible rfl)
                  try simp only [Act.put, List.setIfInBounds_toArray, List.set_cons_zero, List.set_cons_succ]
                  refine wpAnyH_done (by kernel_rfl) ?_ _
                  go_wp2_with fail
                  go_meet
                  exact ⟨rfl, (Kc.only (w0 := w) (cs := [(w1.heap.size, nf, .slice Af f.length cf)]) (ls := [(Af, f)]) (by assumption) [] [] rfl rfl)⟩
                exact AllReadyH.nil
              exact AllReadyH.nil
            exact AllReadyH.nil
          exact AllReadyH.nil
        exact AllReadyH.nil
    · have hgd : decide (0 ≤ c) = false := decide_eq_false hg
      clear HFC
      as_aux_lemma =>
        refine wp_region_held_drew (S := (fun w' => w'.cell? ⟨w1.heap.size, 0, none⟩ = some (.int .i64 nf) ∧ w'.cell? ⟨w1.heap.size, 1, none⟩ = some (.slice Af f.length cf) ∧ Kc T w w' [(w1.heap.size, nf, .slice Af f.length cf)] [(Af, f)])) (by kernel_rfl) ?_ (fun hHeld => ?_)
        · refine ⟨?_, ?_, ?_⟩ <;> (first | assumption)
        refine wpAnyH_take (i := 0) (oi := { dst := some 46, op := Op.move (Operand.tmp 5), type := 3, pos := "laws.go:318", after := #[], guard := none }) (v := ?_) rfl (by kernel_rfl) (by kernel_rfl) (by kernel_rfl) (fun _ _ _ h => h) (Or.inl ⟨by rfl, ?_⟩) (by assumption) ?_
        rotate_left
        · intro wy hSw; (try dsimp only at hSw); go_simp; (try with_reducible rfl)
        try simp only [Act.put, List.setIfInBounds_toArray, List.set_cons_zero, List.set_cons_succ]
        refine wpAnyH_take (i := 1) (oi := { dst := some 47, op := Op.load 26 (Operand.tmp 3), type := 26, pos := "laws.go:318", after := #[], guard := none }) (v := ?_) rfl (by kernel_rfl) (by kernel_rfl) (by kernel_rfl) (fun _ _ _ h => h) (Or.inl ⟨by rfl, ?_⟩) (by assumption) ?_
        rotate_left
        · intro wy hSw; (try dsimp only at hSw); go_simp; (try with_reducible rfl)
        try simp only [Act.put, List.setIfInBounds_toArray, List.set_cons_zero, List.set_cons_succ]
        refine wpAnyH_take (i := 2) (oi := { dst := some 48, op := Op.move (Operand.tmp 4), type := 3, pos := "laws.go:318", after := #[], guard := none }) (v := ?_) rfl (by kernel_rfl) (by kernel_rfl) (by kernel_rfl) (fun _ _ _ h => h) (Or.inl ⟨by rfl, ?_⟩) (by assumption) ?_
        rotate_left
        · intro wy hSw; (try dsimp only at hSw); go_simp; (try with_reducible rfl)
        try simp only [Act.put, List.setIfInBounds_toArray, List.set_cons_zero, List.set_cons_succ]
        refine wpAnyH_ready (rs := [3]) (by kernel_rfl) (by simp) ?_
        refine AllReadyH.cons (o := { dst := some 49, op := Op.call { callee := Callee.value (Operand.func 9), args := #[Operand.tmp 47, Operand.tmp 48], argTypes := #[26, 3] }, type := 3, pos := "laws.go:318", after := #[{ on := 1, ground := Ground.data }, { on := 2, ground := Ground.data }], guard := none }) rfl (fun K1 hK1 => ?_) ?_
        · go_simp
          (refine (HC1.out _ ?_).mono ?_; exact Kc.list (w0 := w) (cs := [(w1.heap.size, nf, .slice Af f.length cf)]) (ls := [(Af, f)]) (by assumption) 0 rfl; rintro e wq ⟨rfl, hb⟩; have hkn : Kc T w wq [(w1.heap.size, nf, .slice Af f.length cf)] [(Af, f)] := Kc.below (by assumption) hb; obtain ⟨c00, c01⟩ := hkn.cell 0 rfl; clear hb)
          try go_wp2_with fail
          refine hK1.out _ _ ?_ (fun hHeld => ?_)
          · (try dsimp only); (refine ⟨?_, ?_, ?_⟩ <;> (first | assumption))
          clear hK1 K1
          try simp only [Act.put, List.setIfInBounds_toArray, List.set_cons_zero, List.set_cons_succ]
          refine wpAnyH_take (i := 4) (oi := { dst := some 50, op := Op.binOp BinOp.neq 3 (Operand.tmp 46) (Operand.tmp 49) 3, type := 4, pos := "laws.go:318", after := #[{ on := 0, ground := Ground.data }, { on := 3, ground := Ground.data }], guard := none }) (v := ?_) rfl (by kernel_rfl) (by kernel_rfl) (by kernel_rfl) (fun _ _ _ h => h) (Or.inl ⟨by rfl, ?_⟩) (by assumption) ?_
          rotate_left
          · intro wy hSw; (try dsimp only at hSw); go_simp; (try with_reducible rfl)
          try simp only [Act.put, List.setIfInBounds_toArray, List.set_cons_zero, List.set_cons_succ]
          refine wpAnyH_take (i := 5) (oi := { dst := some 51, op := Op.move (Operand.tmp 50), type := 4, pos := "laws.go:318", after := #[{ on := 4, ground := Ground.data }, { on := 3, ground := Ground.chain }], guard := none }) (v := ?_) rfl (by kernel_rfl) (by kernel_rfl) (by kernel_rfl) (fun _ _ _ h => h) (Or.inl ⟨by rfl, ?_⟩) (by assumption) ?_
          rotate_left
          · intro wy hSw; (try dsimp only at hSw); go_simp; (try with_reducible rfl)
          try simp only [Act.put, List.setIfInBounds_toArray, List.set_cons_zero, List.set_cons_succ]
          refine wpAnyH_take (i := 6) (oi := { dst := some 52, op := Op.move (Operand.tmp 5), type := 3, pos := "laws.go:318", after := #[{ on := 5, ground := Ground.guard }], guard := some (5, false) }) (v := ?_) rfl (by kernel_rfl) (by kernel_rfl) (by kernel_rfl) (fun _ _ _ h => h) (Or.inl ⟨by rfl, ?_⟩) (by assumption) ?_
          rotate_left
          · intro wy hSw; (try dsimp only at hSw); go_simp; (try with_reducible rfl)
          try simp only [Act.put, List.setIfInBounds_toArray, List.set_cons_zero, List.set_cons_succ]
          refine wpAnyH_take (i := 7) (oi := { dst := some 53, op := Op.binOp BinOp.geq 3 (Operand.tmp 52) (Operand.const (Value.int IntKind.i64 0)) 3, type := 4, pos := "laws.go:318", after := #[{ on := 6, ground := Ground.data }, { on := 5, ground := Ground.guard }], guard := some (5, false) }) (v := ?_) rfl (by kernel_rfl) (by kernel_rfl) (by kernel_rfl) (fun _ _ _ h => h) (Or.inl ⟨by rfl, ?_⟩) (by assumption) ?_
          rotate_left
          · intro wy hSw; (try dsimp only at hSw); go_simp; (try with_reducible rfl)
          try simp only [Act.put, List.setIfInBounds_toArray, List.set_cons_zero, List.set_cons_succ]
          refine wpAnyH_take (i := 8) (oi := { dst := some 54, op := Op.move (Operand.tmp 53), type := 4, pos := "laws.go:318", after := #[{ on := 7, ground := Ground.data }, { on := 5, ground := Ground.chain }, { on := 5, ground := Ground.guard }], guard := some (5, false) }) (v := ?_) rfl (by kernel_rfl) (by kernel_rfl) (by kernel_rfl) (fun _ _ _ h => h) (Or.inl ⟨by rfl, ?_⟩) (by assumption) ?_
          rotate_left
          · intro wy hSw; (try dsimp only at hSw); go_simp; (try with_reducible rfl)
          try simp only [Act.put, List.setIfInBounds_toArray, List.set_cons_zero, List.set_cons_succ]
          refine wpAnyH_take (i := 9) (oi := { dst := some 55, op := Op.move (Operand.tmp 5), type := 3, pos := "laws.go:318", after := #[{ on := 8, ground := Ground.guard }], guard := some (8, true) }) (v := undef) rfl (by kernel_rfl) (by kernel_rfl) (by kernel_rfl) (fun _ _ _ h => h) (Or.inr ⟨by rfl, rfl⟩) (by assumption) ?_
          try simp only [Act.put, List.setIfInBounds_toArray, List.set_cons_zero, List.set_cons_succ]
          refine wpAnyH_take (i := 10) (oi := { dst := some 56, op := Op.move (Operand.tmp 4), type := 3, pos := "laws.go:318", after := #[{ on := 8, ground := Ground.guard }], guard := some (8, true) }) (v := undef) rfl (by kernel_rfl) (by kernel_rfl) (by kernel_rfl) (fun _ _ _ h => h) (Or.inr ⟨by rfl, rfl⟩) (by assumption) ?_
          try simp only [Act.put, List.setIfInBounds_toArray, List.set_cons_zero, List.set_cons_succ]
          refine wpAnyH_take (i := 11) (oi := { dst := some 57, op := Op.binOp BinOp.and 3 (Operand.tmp 55) (Operand.tmp 56) 3, type := 3, pos := "laws.go:318", after := #[{ on := 9, ground := Ground.data }, { on := 10, ground := Ground.data }, { on := 8, ground := Ground.guard }], guard := some (8, true) }) (v := undef) rfl (by kernel_rfl) (by kernel_rfl) (by kernel_rfl) (fun _ _ _ h => h) (Or.inr ⟨by rfl, rfl⟩) (by assumption) ?_
          try simp only [Act.put, List.setIfInBounds_toArray, List.set_cons_zero, List.set_cons_succ]
          refine wpAnyH_take (i := 12) (oi := { dst := some 58, op := Op.move (Operand.tmp 4), type := 3, pos := "laws.go:318", after := #[{ on := 8, ground := Ground.guard }], guard := some (8, true) }) (v := undef) rfl (by kernel_rfl) (by kernel_rfl) (by kernel_rfl) (fun _ _ _ h => h) (Or.inr ⟨by rfl, rfl⟩) (by assumption) ?_
          try simp only [Act.put, List.setIfInBounds_toArray, List.set_cons_zero, List.set_cons_succ]
          refine wpAnyH_take (i := 13) (oi := { dst := some 59, op := Op.binOp BinOp.neq 3 (Operand.tmp 57) (Operand.tmp 58) 3, type := 4, pos := "laws.go:318", after := #[{ on := 11, ground := Ground.data }, { on := 12, ground := Ground.data }, { on := 8, ground := Ground.guard }], guard := some (8, true) }) (v := undef) rfl (by kernel_rfl) (by kernel_rfl) (by kernel_rfl) (fun _ _ _ h => h) (Or.inr ⟨by rfl, rfl⟩) (by assumption) ?_
          try simp only [Act.put, List.setIfInBounds_toArray, List.set_cons_zero, List.set_cons_succ]
          refine wpAnyH_take (i := 14) (oi := { dst := some 60, op := Op.move (Operand.tmp 59), type := 4, pos := "laws.go:318", after := #[{ on := 13, ground := Ground.data }, { on := 8, ground := Ground.chain }, { on := 8, ground := Ground.guard }], guard := some (8, true) }) (v := undef) rfl (by kernel_rfl) (by kernel_rfl) (by kernel_rfl) (fun _ _ _ h => h) (Or.inr ⟨by rfl, rfl⟩) (by assumption) ?_
          try simp only [Act.put, List.setIfInBounds_toArray, List.set_cons_zero, List.set_cons_succ]
          refine wpAnyH_take (i := 15) (oi := { dst := some 61, op := Op.load 26 (Operand.tmp 3), type := 26, pos := "laws.go:318", after := #[{ on := 14, ground := Ground.guard }], guard := some (14, false) }) (v := undef) rfl (by kernel_rfl) (by kernel_rfl) (by kernel_rfl) (fun _ _ _ h => h) (Or.inr ⟨by rfl, rfl⟩) (by assumption) ?_
          try simp only [Act.put, List.setIfInBounds_toArray, List.set_cons_zero, List.set_cons_succ]
          refine wpAnyH_take (i := 16) (oi := { dst := some 62, op := Op.move (Operand.tmp 5), type := 3, pos := "laws.go:318", after := #[{ on := 14, ground := Ground.guard }], guard := some (14, false) }) (v := undef) rfl (by kernel_rfl) (by kernel_rfl) (by kernel_rfl) (fun _ _ _ h => h) (Or.inr ⟨by rfl, rfl⟩) (by assumption) ?_
          try simp only [Act.put, List.setIfInBounds_toArray, List.set_cons_zero, List.set_cons_succ]
          refine wpAnyH_take (i := 18) (oi := { dst := some 64, op := Op.move (Operand.tmp 5), type := 3, pos := "laws.go:318", after := #[{ on := 14, ground := Ground.guard }], guard := some (14, false) }) (v := undef) rfl (by kernel_rfl) (by kernel_rfl) (by kernel_rfl) (fun _ _ _ h => h) (Or.inr ⟨by rfl, rfl⟩) (by assumption) ?_
          try simp only [Act.put, List.setIfInBounds_toArray, List.set_cons_zero, List.set_cons_succ]
          refine wpAnyH_ready (rs := [17]) (by kernel_rfl) (by simp) ?_
          refine AllReadyH.cons (o := { dst := some 63, op := Op.call { callee := Callee.value (Operand.func 8), args := #[Operand.tmp 61, Operand.tmp 62], argTypes := #[26, 3] }, type := 3, pos := "laws.go:318", after := #[{ on := 15, ground := Ground.data }, { on := 16, ground := Ground.data }, { on := 14, ground := Ground.chain }, { on := 14, ground := Ground.guard }], guard := some (14, false) }) rfl (fun K2 hK2 => ?_) ?_
          · go_simp
            refine hK2.out _ _ ?_ (fun hHeld => ?_)
            · (try dsimp only); (assumption)
            clear hK2 K2
            try simp only [Act.put, List.setIfInBounds_toArray, List.set_cons_zero, List.set_cons_succ]
            refine wpAnyH_take (i := 19) (oi := { dst := some 65, op := Op.binOp BinOp.neq 3 (Operand.tmp 63) (Operand.tmp 64) 3, type := 4, pos := "laws.go:318", after := #[{ on := 17, ground := Ground.data }, { on := 18, ground := Ground.data }, { on := 14, ground := Ground.guard }], guard := some (14, false) }) (v := undef) rfl (by kernel_rfl) (by kernel_rfl) (by kernel_rfl) (fun _ _ _ h => h) (Or.inr ⟨by rfl, rfl⟩) (by assumption) ?_
            try simp only [Act.put, List.setIfInBounds_toArray, List.set_cons_zero, List.set_cons_succ]
            refine wpAnyH_take (i := 20) (oi := { dst := some 66, op := Op.pick (Operand.tmp 60) (Operand.const (Value.bool true)) (Operand.tmp 65), type := 4, pos := "laws.go:318", after := #[{ on := 14, ground := Ground.data }, { on := 19, ground := Ground.data }, { on := 8, ground := Ground.guard }], guard := some (8, true) }) (v := undef) rfl (by kernel_rfl) (by kernel_rfl) (by kernel_rfl) (fun _ _ _ h => h) (Or.inr ⟨by rfl, rfl⟩) (by assumption) ?_
            try simp only [Act.put, List.setIfInBounds_toArray, List.set_cons_zero, List.set_cons_succ]
            refine wpAnyH_take (i := 21) (oi := { dst := some 67, op := Op.move (Operand.tmp 66), type := 4, pos := "laws.go:318", after := #[{ on := 20, ground := Ground.data }, { on := 17, ground := Ground.chain }, { on := 8, ground := Ground.guard }], guard := some (8, true) }) (v := undef) rfl (by kernel_rfl) (by kernel_rfl) (by kernel_rfl) (fun _ _ _ h => h) (Or.inr ⟨by rfl, rfl⟩) (by assumption) ?_
            try simp only [Act.put, List.setIfInBounds_toArray, List.set_cons_zero, List.set_cons_succ]
            refine wpAnyH_take (i := 22) (oi := { dst := some 68, op := Op.load 26 (Operand.tmp 3), type := 26, pos := "laws.go:318", after := #[{ on := 21, ground := Ground.guard }], guard := some (21, false) }) (v := undef) rfl (by kernel_rfl) (by kernel_rfl) (by kernel_rfl) (fun _ _ _ h => h) (Or.inr ⟨by rfl, rfl⟩) (by assumption) ?_
            try simp only [Act.put, List.setIfInBounds_toArray, List.set_cons_zero, List.set_cons_succ]
            refine wpAnyH_take (i := 23) (oi := { dst := some 69, op := Op.move (Operand.tmp 5), type := 3, pos := "laws.go:318", after := #[{ on := 21, ground := Ground.guard }], guard := some (21, false) }) (v := undef) rfl (by kernel_rfl) (by kernel_rfl) (by kernel_rfl) (fun _ _ _ h => h) (Or.inr ⟨by rfl, rfl⟩) (by assumption) ?_
            try simp only [Act.put, List.setIfInBounds_toArray, List.set_cons_zero, List.set_cons_succ]
            refine wpAnyH_ready (rs := [24]) (by kernel_rfl) (by simp) ?_
            refine AllReadyH.cons (o := { dst := some 70, op := Op.call { callee := Callee.value (Operand.func 10), args := #[Operand.tmp 68, Operand.tmp 69], argTypes := #[26, 3] }, type := 4, pos := "laws.go:318", after := #[{ on := 22, ground := Ground.data }, { on := 23, ground := Ground.data }, { on := 21, ground := Ground.chain }, { on := 21, ground := Ground.guard }], guard := some (21, false) }) rfl (fun K3 hK3 => ?_) ?_
            · go_simp
              refine hK3.out _ _ ?_ (fun hHeld => ?_)
              · (try dsimp only); (assumption)
              clear hK3 K3
              try simp only [Act.put, List.setIfInBounds_toArray, List.set_cons_zero, List.set_cons_succ]
              refine wpAnyH_take (i := 25) (oi := { dst := some 71, op := Op.unOp UnOp.not 4 (Operand.tmp 70), type := 4, pos := "laws.go:318", after := #[{ on := 24, ground := Ground.data }, { on := 21, ground := Ground.guard }], guard := some (21, false) }) (v := undef) rfl (by kernel_rfl) (by kernel_rfl) (by kernel_rfl) (fun _ _ _ h => h) (Or.inr ⟨by rfl, rfl⟩) (by assumption) ?_
              try simp only [Act.put, List.setIfInBounds_toArray, List.set_cons_zero, List.set_cons_succ]
              refine wpAnyH_take (i := 26) (oi := { dst := some 72, op := Op.pick (Operand.tmp 67) (Operand.const (Value.bool true)) (Operand.tmp 71), type := 4, pos := "laws.go:318", after := #[{ on := 21, ground := Ground.data }, { on := 25, ground := Ground.data }, { on := 8, ground := Ground.guard }], guard := some (8, true) }) (v := undef) rfl (by kernel_rfl) (by kernel_rfl) (by kernel_rfl) (fun _ _ _ h => h) (Or.inr ⟨by rfl, rfl⟩) (by assumption) ?_
              try simp only [Act.put, List.setIfInBounds_toArray, List.set_cons_zero, List.set_cons_succ]
              refine wpAnyH_take (i := 27) (oi := { dst := some 73, op := Op.move (Operand.tmp 72), type := 4, pos := "laws.go:318", after := #[{ on := 26, ground := Ground.data }, { on := 24, ground := Ground.chain }, { on := 8, ground := Ground.guard }], guard := some (8, true) }) (v := undef) rfl (by kernel_rfl) (by kernel_rfl) (by kernel_rfl) (fun _ _ _ h => h) (Or.inr ⟨by rfl, rfl⟩) (by assumption) ?_
              try simp only [Act.put, List.setIfInBounds_toArray, List.set_cons_zero, List.set_cons_succ]
              refine wpAnyH_take (i := 28) (oi := { dst := some 74, op := Op.load 26 (Operand.tmp 3), type := 26, pos := "laws.go:318", after := #[{ on := 27, ground := Ground.guard }], guard := some (27, false) }) (v := undef) rfl (by kernel_rfl) (by kernel_rfl) (by kernel_rfl) (fun _ _ _ h => h) (Or.inr ⟨by rfl, rfl⟩) (by assumption) ?_
              try simp only [Act.put, List.setIfInBounds_toArray, List.set_cons_zero, List.set_cons_succ]
              refine wpAnyH_take (i := 29) (oi := { dst := some 75, op := Op.move (Operand.tmp 5), type := 3, pos := "laws.go:318", after := #[{ on := 27, ground := Ground.guard }], guard := some (27, false) }) (v := undef) rfl (by kernel_rfl) (by kernel_rfl) (by kernel_rfl) (fun _ _ _ h => h) (Or.inr ⟨by rfl, rfl⟩) (by assumption) ?_
              try simp only [Act.put, List.setIfInBounds_toArray, List.set_cons_zero, List.set_cons_succ]
              refine wpAnyH_take (i := 31) (oi := { dst := some 77, op := Op.load 26 (Operand.tmp 3), type := 26, pos := "laws.go:318", after := #[{ on := 27, ground := Ground.guard }], guard := some (27, false) }) (v := undef) rfl (by kernel_rfl) (by kernel_rfl) (by kernel_rfl) (fun _ _ _ h => h) (Or.inr ⟨by rfl, rfl⟩) (by assumption) ?_
              try simp only [Act.put, List.setIfInBounds_toArray, List.set_cons_zero, List.set_cons_succ]
              refine wpAnyH_take (i := 32) (oi := { dst := some 78, op := Op.move (Operand.tmp 4), type := 3, pos := "laws.go:318", after := #[{ on := 27, ground := Ground.guard }], guard := some (27, false) }) (v := undef) rfl (by kernel_rfl) (by kernel_rfl) (by kernel_rfl) (fun _ _ _ h => h) (Or.inr ⟨by rfl, rfl⟩) (by assumption) ?_
              try simp only [Act.put, List.setIfInBounds_toArray, List.set_cons_zero, List.set_cons_succ]
              refine wpAnyH_ready (rs := [30]) (by kernel_rfl) (by simp) ?_
              refine AllReadyH.cons (o := { dst := some 76, op := Op.call { callee := Callee.value (Operand.func 11), args := #[Operand.tmp 74, Operand.tmp 75], argTypes := #[26, 3] }, type := 3, pos := "laws.go:318", after := #[{ on := 28, ground := Ground.data }, { on := 29, ground := Ground.data }, { on := 27, ground := Ground.chain }, { on := 27, ground := Ground.guard }], guard := some (27, false) }) rfl (fun K4 hK4 => ?_) ?_
              · go_simp
                refine hK4.out _ _ ?_ (fun hHeld => ?_)
                · (try dsimp only); (assumption)
                clear hK4 K4
                try simp only [Act.put, List.setIfInBounds_toArray, List.set_cons_zero, List.set_cons_succ]
                refine wpAnyH_ready (rs := [33]) (by kernel_rfl) (by simp) ?_
                refine AllReadyH.cons (o := { dst := some 79, op := Op.call { callee := Callee.value (Operand.func 11), args := #[Operand.tmp 77, Operand.tmp 78], argTypes := #[26, 3] }, type := 3, pos := "laws.go:318", after := #[{ on := 31, ground := Ground.data }, { on := 32, ground := Ground.data }, { on := 30, ground := Ground.chain }, { on := 27, ground := Ground.guard }], guard := some (27, false) }) rfl (fun K5 hK5 => ?_) ?_
                · go_simp
                  refine hK5.out _ _ ?_ (fun hHeld => ?_)
                  · (try dsimp only); (assumption)
                  clear hK5 K5
                  try simp only [Act.put, List.setIfInBounds_toArray, List.set_cons_zero, List.set_cons_succ]
                  refine wpAnyH_take (i := 34) (oi := { dst := some 80, op := Op.binOp BinOp.neq 3 (Operand.tmp 76) (Operand.tmp 79) 3, type := 4, pos := "laws.go:318", after := #[{ on := 30, ground := Ground.data }, { on := 33, ground := Ground.data }, { on := 27, ground := Ground.guard }], guard := some (27, false) }) (v := undef) rfl (by kernel_rfl) (by kernel_rfl) (by kernel_rfl) (fun _ _ _ h => h) (Or.inr ⟨by rfl, rfl⟩) (by assumption) ?_
                  try simp only [Act.put, List.setIfInBounds_toArray, List.set_cons_zero, List.set_cons_succ]
                  refine wpAnyH_take (i := 35) (oi := { dst := some 81, op := Op.pick (Operand.tmp 73) (Operand.const (Value.bool true)) (Operand.tmp 80), type := 4, pos := "laws.go:318", after := #[{ on := 27, ground := Ground.data }, { on := 34, ground := Ground.data }, { on := 8, ground := Ground.guard }], guard := some (8, true) }) (v := undef) rfl (by kernel_rfl) (by kernel_rfl) (by kernel_rfl) (fun _ _ _ h => h) (Or.inr ⟨by rfl, rfl⟩) (by assumption) ?_
                  try simp only [Act.put, List.setIfInBounds_toArray, List.set_cons_zero, List.set_cons_succ]
                  refine wpAnyH_take (i := 36) (oi := { dst := some 82, op := Op.pick (Operand.tmp 54) (Operand.tmp 81) (Operand.const (Value.bool false)), type := 4, pos := "laws.go:318", after := #[{ on := 8, ground := Ground.data }, { on := 35, ground := Ground.data }, { on := 5, ground := Ground.guard }], guard := some (5, false) }) (v := ?_) rfl (by kernel_rfl) (by kernel_rfl) (by kernel_rfl) (fun _ _ _ h => h) (Or.inl ⟨by rfl, ?_⟩) (by assumption) ?_
                  rotate_left
                  · intro wy hSw; (try dsimp only at hSw); go_simp; (try with_reducible rfl)
                  try simp only [Act.put, List.setIfInBounds_toArray, List.set_cons_zero, List.set_cons_succ]
                  refine wpAnyH_take (i := 37) (oi := { dst := some 83, op := Op.pick (Operand.tmp 51) (Operand.const (Value.bool true)) (Operand.tmp 82), type := 4, pos := "laws.go:318", after := #[{ on := 5, ground := Ground.data }, { on := 36, ground := Ground.data }], guard := none }) (v := ?_) rfl (by kernel_rfl) (by kernel_rfl) (by kernel_rfl) (fun _ _ _ h => h) (Or.inl ⟨by rfl, ?_⟩) (by assumption) ?_
                  rotate_left
                  · intro wy hSw; (try dsimp only at hSw); go_simp; (try with_reducible rfl)
                  try simp only [Act.put, List.setIfInBounds_toArray, List.set_cons_zero, List.set_cons_succ]
                  refine wpAnyH_done (by kernel_rfl) ?_ _
                  go_wp2_with fail
                  go_meet
                  exact ⟨rfl, (Kc.only (w0 := w) (cs := [(w1.heap.size, nf, .slice Af f.length cf)]) (ls := [(Af, f)]) (by assumption) [] [] rfl rfl)⟩
                exact AllReadyH.nil
              exact AllReadyH.nil
            exact AllReadyH.nil
          exact AllReadyH.nil
        exact AllReadyH.nil
  case rest =>
    as_aux_lemma =>
      obtain ⟨rfl, hK⟩ := hcut
      have HK3 := Lib.hid hK
      clear hK HK2 HC1 HFC hcb
      go_wp2_with fail
      refine (ldraw_got _ len _ hl (HY.out _ HK3.out.base)).mono ?_
      rintro e w3 ⟨_, ng, g, rfl, ⟨Ag, cg, rfl, ho, hlg⟩, hb⟩
      have HK4 := Lib.hid (((HK3.out.below hb).put ho.read).box ng (.slice Ag g.length cg) 26)
      clear ho hb HK3
      have HC0 := Lib.hid (fun W (h0 : T W) (h1 : Ints W W.heap.size Ag g) => iFlats.out W ng Ag g cg h0 (Lib.hid h1))
      have HC1 := Lib.hid (fun W (h1 : Ints W W.heap.size Ag g) => flatsS_any ng Ag g cg W (Lib.hid h1))
      have HFA := Lib.hid (fun i k h1 h2 => flats_and (n := ng) (xs := g) (i := i) (k := k) h1 h2)
      have hlen := flatsOf_len (n := ng) (xs := g) hlg.2
      obtain ⟨l, bl, hc⟩ : ∃ l b, flatsOf ng g = (l, b) := ⟨_, _, rfl⟩
      rw [hc] at HC0 HC1 HFA hlen
      clear hc hlg
      go_wp2_with fail
      refine (HC0.out _ HK4.out.fact (HK4.out.list 0 rfl)).mono ?_
      rintro e w4 ⟨Al, cl, rfl, ho, hb⟩
      have HK5 := Lib.hid ((HK4.out.below hb).put ho.read)
      obtain ⟨b00, b01⟩ := HK5.out.cell 0 rfl
      clear ho hb HK4 HC0
      go_wp2_with fail
      refine (HC1.out _ (HK5.out.list 1 rfl)).mono ?_
      rintro e w5 ⟨Am, cm, rfl, ho, hb⟩
      have HK6 := Lib.hid ((HK5.out.below hb).put ho.read)
      clear ho hb HK5 HC1 b00 b01
      (try dsimp only at hlen)
      go_wp2_with fail
      refine (sameInts_same Al Am l cl cm _ (Lib.hid (HK6.out.list 1 rfl)) (Lib.hid (HK6.out.list 0 rfl)) (by omega)).mono ?_
      rintro e w6 ⟨rfl, q, rfl⟩
      have HK7 := Lib.hid ((HK6.out.drewN q).only (cs' := []) (ls' := [(Am, l)]) [] [0] rfl rfl)
      clear HK6
      obtain ⟨m, hm⟩ : ∃ m, l.length = m := ⟨_, rfl⟩
      have HM := Lib.hid hm
      rw [hm] at hlen HFA ⊢
      clear hm
      go_wp2
      go_loopw [11] (fun i wr => ∃ j : Nat, i = .int .i64 j ∧ j ≤ m ∧ Kc T w wr [] [(Am, l)]) (fun i _ => m - (intOf i).toNat)
      case atStart => exact ⟨0, rfl, Nat.zero_le _, HK7.out⟩
      case round =>
        obtain ⟨j, rfl, hj, hKr⟩ := hrel
        have HKr := Lib.hid hKr
        clear hKr
        by_cases hlt : j < m
        · have hji : (j : Int) < (m : Int) := by omega
          have hj0 : (0 : Int) ≤ (j : Int) := by omega
          go_wp2
          obtain ⟨wo, rfl⟩ : ∃ wo : World, wo = wr := ⟨_, rfl⟩
          go_loopw [12] (fun i wr => ∃ k : Nat, i = .int .i64 k ∧ k ≤ j ∧ Kc T w wr [] [(Am, l)]) (fun i _ => j - (intOf i).toNat)
          case atStart => exact ⟨0, rfl, Nat.zero_le _, HKr.out⟩
          case round =>
            obtain ⟨k, rfl, hk, hKq⟩ := hrel
            have HKq := Lib.hid hKq
            by_cases hlt2 : k < j
            · have hki : (k : Int) < (j : Int) := by omega
              have hkm : (k : Int) < (m : Int) := by omega
              have hk0 : (0 : Int) ≤ (k : Int) := by omega
              obtain ⟨x, y, hx, hy', hx32, hy32, hin⟩ := HFA.out j k hlt (by omega)
              (try dsimp only at hx hy' hin)
              obtain ⟨b, off, rfl, hbl, hc1⟩ := (hKq.list 0 rfl).at_ (k := j) (by rw [HM.out]; exact hlt)
              obtain ⟨b', off', e', -, hc2⟩ := (hKq.list 0 rfl).at_ (k := k) (by rw [HM.out]; omega)
              obtain ⟨rfl, rfl⟩ : b = b' ∧ off = off' := by cases e'; exact ⟨rfl, rfl⟩
              rw [hx] at hc1
              rw [hy'] at hc2
              have hbits := and_two x y (by omega) (by omega)
              have HH := Lib.hid (fun n => has_mem (some ⟨b, off, none⟩) l cm ((x &&& y : Nat) : Int) (wr.drewN n) (Lib.hid ((HKq.out.drewN n).list 0 rfl)) (by rw [HM.out]; omega) hin)
              rw [HM.out] at HH
              generalize ((x &&& y : Nat) : Int) = z at hbits HH
              clear hKq hx hy' hx32 hy32 hin e'
              go_wp2
              go_quiet ((go_at_call 16; first | exact quiet_left (HH.out _) | exact quiet_add_left (HH.out _)))
              go_wp2
              go_roundw
              case rel => exact ⟨k + 1, by go_num, by omega, by first | exact HKq.out | exact HKq.out.drew | exact HKq.out.drewN _⟩
              case measure => simp [intOf]; omega
            · obtain rfl : j = k := by omega
              have hkk : ¬ (j : Int) < (j : Int) := by omega
              clear hKq
              go_wp2
              go_roundw
              case rel => exact ⟨j + 1, by go_num, by omega, HKq.out⟩
              case measure => simp [intOf]; omega
        · obtain rfl : m = j := by omega
          have hjj : ¬ (m : Int) < (m : Int) := by omega
          have HK8 := Lib.hid (HKr.out.only (cs' := []) (ls' := []) [] [] rfl rfl)
          clear HKr HK7 HFA
          as_aux_lemma =>
            go_wp2_with fail
            refine (rdraw_got _ len _ hl (HY.out _ HK8.out.base)).mono ?_
            rintro e x1 ⟨_, nh, hh, t, rfl, -, ⟨Ah, ch, rfl, ho, hlh⟩, hb⟩
            have HK9 := Lib.hid (((HK8.out.below hb).put ho.read).box nh (.slice Ah hh.length ch) 26)
            clear ho hb HK8
            have HR0 := Lib.hid (fun W (h0 : T W) (h1 : Ints W W.heap.size Ah hh) => iRest.out W nh Ah hh ch t h0 (Lib.hid h1))
            have HR1 := Lib.hid (fun W (h1 : Ints W W.heap.size Ah hh) => restS_any nh Ah hh ch t W (Lib.hid h1))
            have HC0 := Lib.hid (fun W (h0 : T W) (h1 : Ints W W.heap.size Ah hh) => iCont.out W nh Ah hh ch t h0 (Lib.hid h1))
            have HC1 := Lib.hid (fun W (h1 : Ints W W.heap.size Ah hh) => contS_any nh Ah hh ch t W (Lib.hid h1))
            have HRL := Lib.hid (fun h1 h2 => rest_law (n := nh) (xs := hh) (s := t) h1 h2)
            have HCL := Lib.hid (fun h1 h2 => cont_law (n := nh) (xs := hh) (s := t) h1 h2)
            have hl1 := restrict_len (n := nh) (xs := hh) (s := t)
            have hl2 := contract_len nh hh t
            obtain ⟨nr, xr, br, hr⟩ : ∃ n x b, restrictFn nh hh t = (n, x, b) := ⟨_, _, _, rfl⟩
            obtain ⟨nk, xk, bk, hk'⟩ : ∃ n x b, contractFn nh hh t = (n, x, b) := ⟨_, _, _, rfl⟩
            rw [hr] at HR0 HR1 HRL hl1
            rw [hk'] at HC0 HC1 HCL hl2
            (try dsimp only at hl1 hl2)
            clear hr hk' hlh
            go_wp2_with fail
            refine (HR0.out _ HK9.out.fact (HK9.out.list 0 rfl)).mono ?_
            rintro e x2 ⟨Aa, ca, rfl, ho, hb⟩
            have HKa := Lib.hid (((HK9.out.below hb).put ho.read).box nr (.slice Aa xr.length ca) 26)
            obtain ⟨b00, b01⟩ := HKa.out.cell 1 rfl
            clear ho hb HK9 HR0
            go_wp2_with fail
            refine (HR1.out _ (HKa.out.list 1 rfl)).mono ?_
            rintro e x3 ⟨Ab, cb, rfl, ho, hb⟩
            have HKb := Lib.hid (((HKa.out.below hb).put ho.read).box nr (.slice Ab xr.length cb) 26)
            clear b00 b01
            obtain ⟨b00, b01⟩ := HKb.out.cell 2 rfl
            clear ho hb HKa HR1
            go_wp2_with fail
            refine (HC0.out _ HKb.out.fact (HKb.out.list 2 rfl)).mono ?_
            rintro e x4 ⟨Ad, cd, rfl, ho, hb⟩
            have HKc := Lib.hid (((HKb.out.below hb).put ho.read).box nk (.slice Ad xk.length cd) 26)
            clear b00 b01
            obtain ⟨b00, b01⟩ := HKc.out.cell 3 rfl
            clear ho hb HKb HC0
            go_wp2_with fail
            refine (HC1.out _ (HKc.out.list 3 rfl)).mono ?_
            rintro e x5 ⟨Ae, ce, rfl, ho, hb⟩
            have HKd := Lib.hid (((HKc.out.below hb).put ho.read).box nk (.slice Ae xk.length ce) 26)
            clear ho hb HKc HC1 b00 b01
            go_upto_region 25 with (fail)
            generalize x5.alloc (.cells #[.int .i64 nk, .slice Ae xk.length ce] 26) = xw at HKd ⊢
            go_cut [201] (fun s201 wx => s201 = .bool false ∧ Kc T w wx [] [])
            case first =>
              as_aux_lemma =>
                have HSh := Lib.hid (fun W (h1 : Ints W W.heap.size Ah hh) => subS_any nh Ah hh ch W (Lib.hid h1))
                have HSr := Lib.hid (fun W (h1 : Ints W W.heap.size Ab xr) => subI_any nr Ab xr cb W (Lib.hid h1))
                have HSk := Lib.hid (fun W (h1 : Ints W W.heap.size Ae xk) => subI_any nk Ae xk ce W (Lib.hid h1))
                have HGk := Lib.hid (fun W (h1 : Ints W W.heap.size Ae xk) => groundI_any nk Ae xk ce W (Lib.hid h1))
                obtain ⟨sh, hsh⟩ : ∃ b, isSub nh hh = b := ⟨_, rfl⟩
                obtain ⟨sr, hsr⟩ : ∃ b, isSub nr xr = b := ⟨_, rfl⟩
                obtain ⟨sk, hsk⟩ : ∃ b, isSub nk xk = b := ⟨_, rfl⟩
                obtain ⟨gk, hgk⟩ : ∃ b, isGround nk xk = b := ⟨_, rfl⟩
                rw [hsh] at HSh HRL HCL
                rw [hsr] at HSr HRL
                rw [hsk] at HSk HCL
                rw [hgk] at HGk HCL
                clear hsh hsr hsk hgk
                obtain ⟨c30, c31⟩ := HKd.out.cell 3 rfl
                obtain ⟨c20, c21⟩ := HKd.out.cell 2 rfl
                go_wp2_with fail
                refine (eqS_yes nr Aa xr ca Ab cb _ (Lib.hid (HKd.out.list 3 rfl)) (Lib.hid (HKd.out.list 2 rfl)) (by omega)).mono ?_
                rintro e xq1 ⟨rfl, hb⟩
                have HKq1 := Lib.hid (HKd.out.below hb)
                clear hb c30 c31 c20 c21
                obtain ⟨c10, c11⟩ := HKq1.out.cell 1 rfl
                obtain ⟨c00, c01⟩ := HKq1.out.cell 0 rfl
                go_wp2_with fail
                refine (eqS_yes nk Ad xk cd Ae ce _ (Lib.hid (HKq1.out.list 1 rfl)) (Lib.hid (HKq1.out.list 0 rfl)) (by omega)).mono ?_
                rintro e xq2 ⟨rfl, hb⟩
                have HKq2 := Lib.hid (HKq1.out.below hb)
                clear hb c10 c11 c00 c01
                cases br
                · skip
                  go_wp2_with fail
                  go_meet
                  exact ⟨rfl, HKq2.out.only (cs' := []) (ls' := []) [] [] rfl rfl⟩
                · skip
                  obtain ⟨c40, c41⟩ := HKq2.out.cell 4 rfl
                  go_wp2_with fail
                  refine (HSh.out _ (HKq2.out.list 4 rfl)).mono ?_
                  rintro e xq3 ⟨rfl, hb⟩
                  have HKq3 := Lib.hid (HKq2.out.below hb)
                  clear hb c40 c41
                  cases sh
                  · skip
                    go_wp2_with fail
                    go_meet
                    exact ⟨rfl, HKq3.out.only (cs' := []) (ls' := []) [] [] rfl rfl⟩
                  · obtain rfl : sr = true := by have h := HRL.out; simpa using h
                    obtain ⟨c20, c21⟩ := HKq3.out.cell 2 rfl
                    go_wp2_with fail
                    refine (HSr.out _ (HKq3.out.list 2 rfl)).mono ?_
                    rintro e xq4 ⟨rfl, hb⟩
                    have HKq4 := Lib.hid (HKq3.out.below hb)
                    clear hb c20 c21
                    cases bk
                    · skip
                      go_wp2_with fail
                      go_meet
                      exact ⟨rfl, HKq4.out.only (cs' := []) (ls' := []) [] [] rfl rfl⟩
                    · obtain ⟨rfl, rfl⟩ : sk = true ∧ gk = true := by have h := HCL.out; simpa using h
                      obtain ⟨c00, c01⟩ := HKq4.out.cell 0 rfl
                      go_wp2_with fail
                      refine (HSk.out _ (HKq4.out.list 0 rfl)).mono ?_
                      rintro e xq5 ⟨rfl, hb⟩
                      have HKq5 := Lib.hid (HKq4.out.below hb)
                      clear hb c00 c01
                      obtain ⟨c00, c01⟩ := HKq5.out.cell 0 rfl
                      go_wp2_with fail
                      refine (HGk.out _ (HKq5.out.list 0 rfl)).mono ?_
                      rintro e xq6 ⟨rfl, hb⟩
                      have HKq6 := Lib.hid (HKq5.out.below hb)
                      clear hb c00 c01
                      go_wp2_with fail
                      go_meet
                      exact ⟨rfl, HKq6.out.only (cs' := []) (ls' := []) [] [] rfl rfl⟩
            case rest =>
              as_aux_lemma =>
                obtain ⟨rfl, hK⟩ := hcut
                have HKe := Lib.hid hK
                clear hK HKd HRL HCL hl1 hl2
                go_wp2_with fail
                refine (odraw_got _ len _ hl (HY.out _ HKe.out.base)).mono ?_
                rintro e y1 ⟨_, no, xo, rfl, ⟨Ao, co, rfl, ho, hlo⟩, hb⟩
                have HKf := Lib.hid (((HKe.out.below hb).put ho.read).box no (.slice Ao xo.length co) 26)
                clear ho hb HKe
                have HC0 := Lib.hid (fun W (h0 : T W) (h1 : Ints W W.heap.size Ao xo) => iOpp.out W no Ao xo co h0 (Lib.hid h1))
                have HC1 := Lib.hid (fun W (h1 : Ints W W.heap.size Ao xo) => oppS_any no Ao xo co W (Lib.hid h1))
                have HOL := Lib.hid (fun h1 => opp_law (n := no) (xs := xo) h1)
                have hl1 := opposite_len no xo
                obtain ⟨np, xp, bp, hr⟩ : ∃ n x b, oppositeFn no xo = (n, x, b) := ⟨_, _, _, rfl⟩
                rw [hr] at HC0 HC1 HOL hl1
                (try dsimp only at hl1)
                clear hr hlo
                go_wp2_with fail
                refine (HC0.out _ HKf.out.fact (HKf.out.list 0 rfl)).mono ?_
                rintro e y2 ⟨Ap, cp, rfl, ho, hb⟩
                have HKg := Lib.hid (((HKf.out.below hb).put ho.read).box np (.slice Ap xp.length cp) 26)
                obtain ⟨b00, b01⟩ := HKg.out.cell 1 rfl
                clear ho hb HKf HC0
                go_wp2_with fail
                refine (HC1.out _ (HKg.out.list 1 rfl)).mono ?_
                rintro e y3 ⟨Aq, cq, rfl, ho, hb⟩
                have HKh := Lib.hid (((HKg.out.below hb).put ho.read).box np (.slice Aq xp.length cq) 26)
                clear ho hb HKg HC1 b00 b01
                go_upto_region 30 with (fail)
                generalize y3.alloc (.cells #[.int .i64 np, .slice Aq xp.length cq] 26) = yw at HKh ⊢
                go_cut [232] (fun s232 wx => s232 = .bool false ∧ Kc T w wx [] [])
                case first =>
                  have HE := Lib.hid (fun W (h1 : Ints W W.heap.size Ap xp) (h2 : Ints W W.heap.size Aq xp) => eqS_yes np Ap xp cp Aq cq W (Lib.hid h1) (Lib.hid h2) (by omega))
                  have HSI := Lib.hid (fun W (h1 : Ints W W.heap.size Aq xp) => subI_any np Aq xp cq W (Lib.hid h1))
                  have HSS := Lib.hid (fun W (h1 : Ints W W.heap.size Ao xo) => subS_any no Ao xo co W (Lib.hid h1))
                  obtain ⟨si, hsi⟩ : ∃ b, isSub np xp = b := ⟨_, rfl⟩
                  obtain ⟨ss, hss⟩ : ∃ b, isSub no xo = b := ⟨_, rfl⟩
                  rw [hsi] at HSI HOL
                  rw [hss] at HSS HOL
                  clear hsi hss
                  have hk0 := HKh.out
                  have hkd := hk0.drew
                  obtain ⟨b00, b01⟩ := hk0.cell 0 rfl
                  obtain ⟨b10, b11⟩ := hk0.cell 1 rfl
                  obtain ⟨b20, b21⟩ := hk0.cell 2 rfl
                  cases bp
                  · skip
                    as_aux_lemma =>
                      refine wp_region_held_drew (S := (fun w' => w'.cell? ⟨y3.heap.size, 0, none⟩ = some (.int .i64 np) ∧ w'.cell? ⟨y3.heap.size, 1, none⟩ = some (.slice Aq xp.length cq) ∧ w'.cell? ⟨y2.heap.size, 0, none⟩ = some (.int .i64 np) ∧ w'.cell? ⟨y2.heap.size, 1, none⟩ = some (.slice Ap xp.length cp) ∧ w'.cell? ⟨y1.heap.size, 0, none⟩ = some (.int .i64 no) ∧ w'.cell? ⟨y1.heap.size, 1, none⟩ = some (.slice Ao xo.length co) ∧ Kc T w w' [(y3.heap.size, np, .slice Aq xp.length cq), (y2.heap.size, np, .slice Ap xp.length cp), (y1.heap.size, no, .slice Ao xo.length co)] [(Aq, xp), (Ap, xp), (Ao, xo)])) (by kernel_rfl) ?_ (fun hHeld => ?_)
                      · refine ⟨?_, ?_, ?_, ?_, ?_, ?_, ?_⟩ <;> (first | assumption)
                      refine wpAnyH_take (i := 0) (oi := { dst := some 214, op := Op.move (Operand.tmp 25), type := 4, pos := "laws.go:345", after := #[], guard := none }) (v := ?_) rfl (by kernel_rfl) (by kernel_rfl) (by kernel_rfl) (fun _ _ _ h => h) (Or.inl ⟨by rfl, ?_⟩) (by assumption) ?_
                      rotate_left
                      · intro wy hSw; (try dsimp only at hSw); go_simp; (try with_reducible rfl)
                      try simp only [Act.put, List.setIfInBounds_toArray, List.set_cons_zero, List.set_cons_succ]
                      refine wpAnyH_take (i := 1) (oi := { dst := some 215, op := Op.move (Operand.tmp 27), type := 4, pos := "laws.go:345", after := #[], guard := none }) (v := ?_) rfl (by kernel_rfl) (by kernel_rfl) (by kernel_rfl) (fun _ _ _ h => h) (Or.inl ⟨by rfl, ?_⟩) (by assumption) ?_
                      rotate_left
                      · intro wy hSw; (try dsimp only at hSw); go_simp; (try with_reducible rfl)
                      try simp only [Act.put, List.setIfInBounds_toArray, List.set_cons_zero, List.set_cons_succ]
                      refine wpAnyH_take (i := 2) (oi := { dst := some 216, op := Op.binOp BinOp.neq 4 (Operand.tmp 214) (Operand.tmp 215) 4, type := 4, pos := "laws.go:345", after := #[{ on := 0, ground := Ground.data }, { on := 1, ground := Ground.data }], guard := none }) (v := ?_) rfl (by kernel_rfl) (by kernel_rfl) (by kernel_rfl) (fun _ _ _ h => h) (Or.inl ⟨by rfl, ?_⟩) (by assumption) ?_
                      rotate_left
                      · intro wy hSw; (try dsimp only at hSw); go_simp; (try with_reducible rfl)
                      try simp only [Act.put, List.setIfInBounds_toArray, List.set_cons_zero, List.set_cons_succ]
                      refine wpAnyH_take (i := 3) (oi := { dst := some 217, op := Op.move (Operand.tmp 216), type := 4, pos := "laws.go:345", after := #[{ on := 2, ground := Ground.data }], guard := none }) (v := ?_) rfl (by kernel_rfl) (by kernel_rfl) (by kernel_rfl) (fun _ _ _ h => h) (Or.inl ⟨by rfl, ?_⟩) (by assumption) ?_
                      rotate_left
                      · intro wy hSw; (try dsimp only at hSw); go_simp; (try with_reducible rfl)
                      try simp only [Act.put, List.setIfInBounds_toArray, List.set_cons_zero, List.set_cons_succ]
                      refine wpAnyH_take (i := 4) (oi := { dst := some 218, op := Op.load 26 (Operand.tmp 24), type := 26, pos := "laws.go:345", after := #[{ on := 3, ground := Ground.guard }], guard := some (3, false) }) (v := ?_) rfl (by kernel_rfl) (by kernel_rfl) (by kernel_rfl) (fun _ _ _ h => h) (Or.inl ⟨by rfl, ?_⟩) (by assumption) ?_
                      rotate_left
                      · intro wy hSw; (try dsimp only at hSw); go_simp; (try with_reducible rfl)
                      try simp only [Act.put, List.setIfInBounds_toArray, List.set_cons_zero, List.set_cons_succ]
                      refine wpAnyH_take (i := 5) (oi := { dst := some 219, op := Op.load 26 (Operand.tmp 26), type := 26, pos := "laws.go:345", after := #[{ on := 3, ground := Ground.guard }], guard := some (3, false) }) (v := ?_) rfl (by kernel_rfl) (by kernel_rfl) (by kernel_rfl) (fun _ _ _ h => h) (Or.inl ⟨by rfl, ?_⟩) (by assumption) ?_
                      rotate_left
                      · intro wy hSw; (try dsimp only at hSw); go_simp; (try with_reducible rfl)
                      try simp only [Act.put, List.setIfInBounds_toArray, List.set_cons_zero, List.set_cons_succ]
                      refine wpAnyH_ready (rs := [6]) (by kernel_rfl) (by simp) ?_
                      refine AllReadyH.cons (o := { dst := some 220, op := Op.call { callee := Callee.value (Operand.func 22), args := #[Operand.tmp 218, Operand.tmp 219], argTypes := #[26, 26] }, type := 4, pos := "laws.go:345", after := #[{ on := 4, ground := Ground.data }, { on := 5, ground := Ground.data }, { on := 3, ground := Ground.chain }, { on := 3, ground := Ground.guard }], guard := some (3, false) }) rfl (fun K1 hK1 => ?_) ?_
                      · go_simp
                        (refine (HE.out _ ?_ ?_).mono ?_; exact Kc.list (w0 := w) (cs := [(y3.heap.size, np, .slice Aq xp.length cq), (y2.heap.size, np, .slice Ap xp.length cp), (y1.heap.size, no, .slice Ao xo.length co)]) (ls := [(Aq, xp), (Ap, xp), (Ao, xo)]) (by assumption) 1 rfl; exact Kc.list (w0 := w) (cs := [(y3.heap.size, np, .slice Aq xp.length cq), (y2.heap.size, np, .slice Ap xp.length cp), (y1.heap.size, no, .slice Ao xo.length co)]) (ls := [(Aq, xp), (Ap, xp), (Ao, xo)]) (by assumption) 0 rfl; rintro e wq ⟨rfl, hb⟩; have hkn : Kc T w wq [(y3.heap.size, np, .slice Aq xp.length cq), (y2.heap.size, np, .slice Ap xp.length cp), (y1.heap.size, no, .slice Ao xo.length co)] [(Aq, xp), (Ap, xp), (Ao, xo)] := Kc.below (by assumption) hb; obtain ⟨c00, c01⟩ := hkn.cell 0 rfl; obtain ⟨c10, c11⟩ := hkn.cell 1 rfl; obtain ⟨c20, c21⟩ := hkn.cell 2 rfl; clear hb)
                        try go_wp2_with fail
                        refine hK1.out _ _ ?_ (fun hHeld => ?_)
                        · (try dsimp only); (refine ⟨?_, ?_, ?_, ?_, ?_, ?_, ?_⟩ <;> (first | assumption))
                        clear hK1 K1
                        try simp only [Act.put, List.setIfInBounds_toArray, List.set_cons_zero, List.set_cons_succ]
                        refine wpAnyH_take (i := 7) (oi := { dst := some 221, op := Op.unOp UnOp.not 4 (Operand.tmp 220), type := 4, pos := "laws.go:345", after := #[{ on := 6, ground := Ground.data }, { on := 3, ground := Ground.guard }], guard := some (3, false) }) (v := ?_) rfl (by kernel_rfl) (by kernel_rfl) (by kernel_rfl) (fun _ _ _ h => h) (Or.inl ⟨by rfl, ?_⟩) (by assumption) ?_
                        rotate_left
                        · intro wy hSw; (try dsimp only at hSw); go_simp; (try with_reducible rfl)
                        try simp only [Act.put, List.setIfInBounds_toArray, List.set_cons_zero, List.set_cons_succ]
                        refine wpAnyH_take (i := 8) (oi := { dst := some 222, op := Op.pick (Operand.tmp 217) (Operand.const (Value.bool true)) (Operand.tmp 221), type := 4, pos := "laws.go:345", after := #[{ on := 3, ground := Ground.data }, { on := 7, ground := Ground.data }], guard := none }) (v := ?_) rfl (by kernel_rfl) (by kernel_rfl) (by kernel_rfl) (fun _ _ _ h => h) (Or.inl ⟨by rfl, ?_⟩) (by assumption) ?_
                        rotate_left
                        · intro wy hSw; (try dsimp only at hSw); go_simp; (try with_reducible rfl)
                        try simp only [Act.put, List.setIfInBounds_toArray, List.set_cons_zero, List.set_cons_succ]
                        refine wpAnyH_take (i := 9) (oi := { dst := some 223, op := Op.move (Operand.tmp 222), type := 4, pos := "laws.go:345", after := #[{ on := 8, ground := Ground.data }, { on := 6, ground := Ground.chain }], guard := none }) (v := ?_) rfl (by kernel_rfl) (by kernel_rfl) (by kernel_rfl) (fun _ _ _ h => h) (Or.inl ⟨by rfl, ?_⟩) (by assumption) ?_
                        rotate_left
                        · intro wy hSw; (try dsimp only at hSw); go_simp; (try with_reducible rfl)
                        try simp only [Act.put, List.setIfInBounds_toArray, List.set_cons_zero, List.set_cons_succ]
                        refine wpAnyH_take (i := 10) (oi := { dst := some 224, op := Op.move (Operand.tmp 25), type := 4, pos := "laws.go:345", after := #[{ on := 9, ground := Ground.guard }], guard := some (9, false) }) (v := ?_) rfl (by kernel_rfl) (by kernel_rfl) (by kernel_rfl) (fun _ _ _ h => h) (Or.inl ⟨by rfl, ?_⟩) (by assumption) ?_
                        rotate_left
                        · intro wy hSw; (try dsimp only at hSw); go_simp; (try with_reducible rfl)
                        try simp only [Act.put, List.setIfInBounds_toArray, List.set_cons_zero, List.set_cons_succ]
                        refine wpAnyH_take (i := 11) (oi := { dst := some 225, op := Op.move (Operand.tmp 224), type := 4, pos := "laws.go:345", after := #[{ on := 10, ground := Ground.data }, { on := 9, ground := Ground.chain }, { on := 9, ground := Ground.guard }], guard := some (9, false) }) (v := ?_) rfl (by kernel_rfl) (by kernel_rfl) (by kernel_rfl) (fun _ _ _ h => h) (Or.inl ⟨by rfl, ?_⟩) (by assumption) ?_
                        rotate_left
                        · intro wy hSw; (try dsimp only at hSw); go_simp; (try with_reducible rfl)
                        try simp only [Act.put, List.setIfInBounds_toArray, List.set_cons_zero, List.set_cons_succ]
                        refine wpAnyH_take (i := 12) (oi := { dst := some 226, op := Op.load 26 (Operand.tmp 26), type := 26, pos := "laws.go:345", after := #[{ on := 11, ground := Ground.guard }], guard := some (11, true) }) (v := undef) rfl (by kernel_rfl) (by kernel_rfl) (by kernel_rfl) (fun _ _ _ h => h) (Or.inr ⟨by rfl, rfl⟩) (by assumption) ?_
                        try simp only [Act.put, List.setIfInBounds_toArray, List.set_cons_zero, List.set_cons_succ]
                        refine wpAnyH_take (i := 14) (oi := { dst := some 228, op := Op.load 26 (Operand.tmp 23), type := 26, pos := "laws.go:345", after := #[{ on := 11, ground := Ground.guard }], guard := some (11, true) }) (v := undef) rfl (by kernel_rfl) (by kernel_rfl) (by kernel_rfl) (fun _ _ _ h => h) (Or.inr ⟨by rfl, rfl⟩) (by assumption) ?_
                        try simp only [Act.put, List.setIfInBounds_toArray, List.set_cons_zero, List.set_cons_succ]
                        refine wpAnyH_ready (rs := [13]) (by kernel_rfl) (by simp) ?_
                        refine AllReadyH.cons (o := { dst := some 227, op := Op.call { callee := Callee.value (Operand.func 24), args := #[Operand.tmp 226], argTypes := #[26] }, type := 4, pos := "laws.go:345", after := #[{ on := 12, ground := Ground.data }, { on := 11, ground := Ground.chain }, { on := 11, ground := Ground.guard }], guard := some (11, true) }) rfl (fun K2 hK2 => ?_) ?_
                        · go_simp
                          refine hK2.out _ _ ?_ (fun hHeld => ?_)
                          · (try dsimp only); (assumption)
                          clear hK2 K2
                          try simp only [Act.put, List.setIfInBounds_toArray, List.set_cons_zero, List.set_cons_succ]
                          refine wpAnyH_ready (rs := [15]) (by kernel_rfl) (by simp) ?_
                          refine AllReadyH.cons (o := { dst := some 229, op := Op.call { callee := Callee.value (Operand.func 23), args := #[Operand.tmp 228], argTypes := #[26] }, type := 4, pos := "laws.go:345", after := #[{ on := 14, ground := Ground.data }, { on := 13, ground := Ground.chain }, { on := 11, ground := Ground.guard }], guard := some (11, true) }) rfl (fun K3 hK3 => ?_) ?_
                          · go_simp
                            refine hK3.out _ _ ?_ (fun hHeld => ?_)
                            · (try dsimp only); (assumption)
                            clear hK3 K3
                            try simp only [Act.put, List.setIfInBounds_toArray, List.set_cons_zero, List.set_cons_succ]
                            refine wpAnyH_take (i := 16) (oi := { dst := some 230, op := Op.binOp BinOp.neq 4 (Operand.tmp 227) (Operand.tmp 229) 4, type := 4, pos := "laws.go:345", after := #[{ on := 13, ground := Ground.data }, { on := 15, ground := Ground.data }, { on := 11, ground := Ground.guard }], guard := some (11, true) }) (v := undef) rfl (by kernel_rfl) (by kernel_rfl) (by kernel_rfl) (fun _ _ _ h => h) (Or.inr ⟨by rfl, rfl⟩) (by assumption) ?_
                            try simp only [Act.put, List.setIfInBounds_toArray, List.set_cons_zero, List.set_cons_succ]
                            refine wpAnyH_take (i := 17) (oi := { dst := some 231, op := Op.pick (Operand.tmp 225) (Operand.tmp 230) (Operand.const (Value.bool false)), type := 4, pos := "laws.go:345", after := #[{ on := 11, ground := Ground.data }, { on := 16, ground := Ground.data }, { on := 9, ground := Ground.guard }], guard := some (9, false) }) (v := ?_) rfl (by kernel_rfl) (by kernel_rfl) (by kernel_rfl) (fun _ _ _ h => h) (Or.inl ⟨by rfl, ?_⟩) (by assumption) ?_
                            rotate_left
                            · intro wy hSw; (try dsimp only at hSw); go_simp; (try with_reducible rfl)
                            try simp only [Act.put, List.setIfInBounds_toArray, List.set_cons_zero, List.set_cons_succ]
                            refine wpAnyH_take (i := 18) (oi := { dst := some 232, op := Op.pick (Operand.tmp 223) (Operand.const (Value.bool true)) (Operand.tmp 231), type := 4, pos := "laws.go:345", after := #[{ on := 9, ground := Ground.data }, { on := 17, ground := Ground.data }], guard := none }) (v := ?_) rfl (by kernel_rfl) (by kernel_rfl) (by kernel_rfl) (fun _ _ _ h => h) (Or.inl ⟨by rfl, ?_⟩) (by assumption) ?_
                            rotate_left
                            · intro wy hSw; (try dsimp only at hSw); go_simp; (try with_reducible rfl)
                            try simp only [Act.put, List.setIfInBounds_toArray, List.set_cons_zero, List.set_cons_succ]
                            refine wpAnyH_done (by kernel_rfl) ?_ _
                            go_wp2_with fail
                            go_meet
                            exact ⟨rfl, (Kc.only (w0 := w) (cs := [(y3.heap.size, np, .slice Aq xp.length cq), (y2.heap.size, np, .slice Ap xp.length cp), (y1.heap.size, no, .slice Ao xo.length co)]) (ls := [(Aq, xp), (Ap, xp), (Ao, xo)]) (by assumption) [] [] rfl rfl)⟩
                          exact AllReadyH.nil
                        exact AllReadyH.nil
                      exact AllReadyH.nil
                  · obtain rfl : si = ss := HOL.out rfl
                    as_aux_lemma =>
                      refine wp_region_held_drew (S := (fun w' => w'.cell? ⟨y3.heap.size, 0, none⟩ = some (.int .i64 np) ∧ w'.cell? ⟨y3.heap.size, 1, none⟩ = some (.slice Aq xp.length cq) ∧ w'.cell? ⟨y2.heap.size, 0, none⟩ = some (.int .i64 np) ∧ w'.cell? ⟨y2.heap.size, 1, none⟩ = some (.slice Ap xp.length cp) ∧ w'.cell? ⟨y1.heap.size, 0, none⟩ = some (.int .i64 no) ∧ w'.cell? ⟨y1.heap.size, 1, none⟩ = some (.slice Ao xo.length co) ∧ Kc T w w' [(y3.heap.size, np, .slice Aq xp.length cq), (y2.heap.size, np, .slice Ap xp.length cp), (y1.heap.size, no, .slice Ao xo.length co)] [(Aq, xp), (Ap, xp), (Ao, xo)])) (by kernel_rfl) ?_ (fun hHeld => ?_)
                      · refine ⟨?_, ?_, ?_, ?_, ?_, ?_, ?_⟩ <;> (first | assumption)
                      refine wpAnyH_take (i := 0) (oi := { dst := some 214, op := Op.move (Operand.tmp 25), type := 4, pos := "laws.go:345", after := #[], guard := none }) (v := ?_) rfl (by kernel_rfl) (by kernel_rfl) (by kernel_rfl) (fun _ _ _ h => h) (Or.inl ⟨by rfl, ?_⟩) (by assumption) ?_
                      rotate_left
                      · intro wy hSw; (try dsimp only at hSw); go_simp; (try with_reducible rfl)
                      try simp only [Act.put, List.setIfInBounds_toArray, List.set_cons_zero, List.set_cons_succ]
                      refine wpAnyH_take (i := 1) (oi := { dst := some 215, op := Op.move (Operand.tmp 27), type := 4, pos := "laws.go:345", after := #[], guard := none }) (v := ?_) rfl (by kernel_rfl) (by kernel_rfl) (by kernel_rfl) (fun _ _ _ h => h) (Or.inl ⟨by rfl, ?_⟩) (by assumption) ?_
                      rotate_left
                      · intro wy hSw; (try dsimp only at hSw); go_simp; (try with_reducible rfl)
                      try simp only [Act.put, List.setIfInBounds_toArray, List.set_cons_zero, List.set_cons_succ]
                      refine wpAnyH_take (i := 2) (oi := { dst := some 216, op := Op.binOp BinOp.neq 4 (Operand.tmp 214) (Operand.tmp 215) 4, type := 4, pos := "laws.go:345", after := #[{ on := 0, ground := Ground.data }, { on := 1, ground := Ground.data }], guard := none }) (v := ?_) rfl (by kernel_rfl) (by kernel_rfl) (by kernel_rfl) (fun _ _ _ h => h) (Or.inl ⟨by rfl, ?_⟩) (by assumption) ?_
                      rotate_left
                      · intro wy hSw; (try dsimp only at hSw); go_simp; (try with_reducible rfl)
                      try simp only [Act.put, List.setIfInBounds_toArray, List.set_cons_zero, List.set_cons_succ]
                      refine wpAnyH_take (i := 3) (oi := { dst := some 217, op := Op.move (Operand.tmp 216), type := 4, pos := "laws.go:345", after := #[{ on := 2, ground := Ground.data }], guard := none }) (v := ?_) rfl (by kernel_rfl) (by kernel_rfl) (by kernel_rfl) (fun _ _ _ h => h) (Or.inl ⟨by rfl, ?_⟩) (by assumption) ?_
                      rotate_left
                      · intro wy hSw; (try dsimp only at hSw); go_simp; (try with_reducible rfl)
                      try simp only [Act.put, List.setIfInBounds_toArray, List.set_cons_zero, List.set_cons_succ]
                      refine wpAnyH_take (i := 4) (oi := { dst := some 218, op := Op.load 26 (Operand.tmp 24), type := 26, pos := "laws.go:345", after := #[{ on := 3, ground := Ground.guard }], guard := some (3, false) }) (v := ?_) rfl (by kernel_rfl) (by kernel_rfl) (by kernel_rfl) (fun _ _ _ h => h) (Or.inl ⟨by rfl, ?_⟩) (by assumption) ?_
                      rotate_left
                      · intro wy hSw; (try dsimp only at hSw); go_simp; (try with_reducible rfl)
                      try simp only [Act.put, List.setIfInBounds_toArray, List.set_cons_zero, List.set_cons_succ]
                      refine wpAnyH_take (i := 5) (oi := { dst := some 219, op := Op.load 26 (Operand.tmp 26), type := 26, pos := "laws.go:345", after := #[{ on := 3, ground := Ground.guard }], guard := some (3, false) }) (v := ?_) rfl (by kernel_rfl) (by kernel_rfl) (by kernel_rfl) (fun _ _ _ h => h) (Or.inl ⟨by rfl, ?_⟩) (by assumption) ?_
                      rotate_left
                      · intro wy hSw; (try dsimp only at hSw); go_simp; (try with_reducible rfl)
                      try simp only [Act.put, List.setIfInBounds_toArray, List.set_cons_zero, List.set_cons_succ]
                      refine wpAnyH_ready (rs := [6]) (by kernel_rfl) (by simp) ?_
                      refine AllReadyH.cons (o := { dst := some 220, op := Op.call { callee := Callee.value (Operand.func 22), args := #[Operand.tmp 218, Operand.tmp 219], argTypes := #[26, 26] }, type := 4, pos := "laws.go:345", after := #[{ on := 4, ground := Ground.data }, { on := 5, ground := Ground.data }, { on := 3, ground := Ground.chain }, { on := 3, ground := Ground.guard }], guard := some (3, false) }) rfl (fun K1 hK1 => ?_) ?_
                      · go_simp
                        (refine (HE.out _ ?_ ?_).mono ?_; exact Kc.list (w0 := w) (cs := [(y3.heap.size, np, .slice Aq xp.length cq), (y2.heap.size, np, .slice Ap xp.length cp), (y1.heap.size, no, .slice Ao xo.length co)]) (ls := [(Aq, xp), (Ap, xp), (Ao, xo)]) (by assumption) 1 rfl; exact Kc.list (w0 := w) (cs := [(y3.heap.size, np, .slice Aq xp.length cq), (y2.heap.size, np, .slice Ap xp.length cp), (y1.heap.size, no, .slice Ao xo.length co)]) (ls := [(Aq, xp), (Ap, xp), (Ao, xo)]) (by assumption) 0 rfl; rintro e wq ⟨rfl, hb⟩; have hkn : Kc T w wq [(y3.heap.size, np, .slice Aq xp.length cq), (y2.heap.size, np, .slice Ap xp.length cp), (y1.heap.size, no, .slice Ao xo.length co)] [(Aq, xp), (Ap, xp), (Ao, xo)] := Kc.below (by assumption) hb; obtain ⟨c00, c01⟩ := hkn.cell 0 rfl; obtain ⟨c10, c11⟩ := hkn.cell 1 rfl; obtain ⟨c20, c21⟩ := hkn.cell 2 rfl; clear hb)
                        try go_wp2_with fail
                        refine hK1.out _ _ ?_ (fun hHeld => ?_)
                        · (try dsimp only); (refine ⟨?_, ?_, ?_, ?_, ?_, ?_, ?_⟩ <;> (first | assumption))
                        clear hK1 K1
                        try simp only [Act.put, List.setIfInBounds_toArray, List.set_cons_zero, List.set_cons_succ]
                        refine wpAnyH_take (i := 7) (oi := { dst := some 221, op := Op.unOp UnOp.not 4 (Operand.tmp 220), type := 4, pos := "laws.go:345", after := #[{ on := 6, ground := Ground.data }, { on := 3, ground := Ground.guard }], guard := some (3, false) }) (v := ?_) rfl (by kernel_rfl) (by kernel_rfl) (by kernel_rfl) (fun _ _ _ h => h) (Or.inl ⟨by rfl, ?_⟩) (by assumption) ?_
                        rotate_left
                        · intro wy hSw; (try dsimp only at hSw); go_simp; (try with_reducible rfl)
                        try simp only [Act.put, List.setIfInBounds_toArray, List.set_cons_zero, List.set_cons_succ]
                        refine wpAnyH_take (i := 8) (oi := { dst := some 222, op := Op.pick (Operand.tmp 217) (Operand.const (Value.bool true)) (Operand.tmp 221), type := 4, pos := "laws.go:345", after := #[{ on := 3, ground := Ground.data }, { on := 7, ground := Ground.data }], guard := none }) (v := ?_) rfl (by kernel_rfl) (by kernel_rfl) (by kernel_rfl) (fun _ _ _ h => h) (Or.inl ⟨by rfl, ?_⟩) (by assumption) ?_
                        rotate_left
                        · intro wy hSw; (try dsimp only at hSw); go_simp; (try with_reducible rfl)
                        try simp only [Act.put, List.setIfInBounds_toArray, List.set_cons_zero, List.set_cons_succ]
                        refine wpAnyH_take (i := 9) (oi := { dst := some 223, op := Op.move (Operand.tmp 222), type := 4, pos := "laws.go:345", after := #[{ on := 8, ground := Ground.data }, { on := 6, ground := Ground.chain }], guard := none }) (v := ?_) rfl (by kernel_rfl) (by kernel_rfl) (by kernel_rfl) (fun _ _ _ h => h) (Or.inl ⟨by rfl, ?_⟩) (by assumption) ?_
                        rotate_left
                        · intro wy hSw; (try dsimp only at hSw); go_simp; (try with_reducible rfl)
                        try simp only [Act.put, List.setIfInBounds_toArray, List.set_cons_zero, List.set_cons_succ]
                        refine wpAnyH_take (i := 10) (oi := { dst := some 224, op := Op.move (Operand.tmp 25), type := 4, pos := "laws.go:345", after := #[{ on := 9, ground := Ground.guard }], guard := some (9, false) }) (v := ?_) rfl (by kernel_rfl) (by kernel_rfl) (by kernel_rfl) (fun _ _ _ h => h) (Or.inl ⟨by rfl, ?_⟩) (by assumption) ?_
                        rotate_left
                        · intro wy hSw; (try dsimp only at hSw); go_simp; (try with_reducible rfl)
                        try simp only [Act.put, List.setIfInBounds_toArray, List.set_cons_zero, List.set_cons_succ]
                        refine wpAnyH_take (i := 11) (oi := { dst := some 225, op := Op.move (Operand.tmp 224), type := 4, pos := "laws.go:345", after := #[{ on := 10, ground := Ground.data }, { on := 9, ground := Ground.chain }, { on := 9, ground := Ground.guard }], guard := some (9, false) }) (v := ?_) rfl (by kernel_rfl) (by kernel_rfl) (by kernel_rfl) (fun _ _ _ h => h) (Or.inl ⟨by rfl, ?_⟩) (by assumption) ?_
                        rotate_left
                        · intro wy hSw; (try dsimp only at hSw); go_simp; (try with_reducible rfl)
                        try simp only [Act.put, List.setIfInBounds_toArray, List.set_cons_zero, List.set_cons_succ]
                        refine wpAnyH_take (i := 12) (oi := { dst := some 226, op := Op.load 26 (Operand.tmp 26), type := 26, pos := "laws.go:345", after := #[{ on := 11, ground := Ground.guard }], guard := some (11, true) }) (v := ?_) rfl (by kernel_rfl) (by kernel_rfl) (by kernel_rfl) (fun _ _ _ h => h) (Or.inl ⟨by rfl, ?_⟩) (by assumption) ?_
                        rotate_left
                        · intro wy hSw; (try dsimp only at hSw); go_simp; (try with_reducible rfl)
                        try simp only [Act.put, List.setIfInBounds_toArray, List.set_cons_zero, List.set_cons_succ]
                        refine wpAnyH_take (i := 14) (oi := { dst := some 228, op := Op.load 26 (Operand.tmp 23), type := 26, pos := "laws.go:345", after := #[{ on := 11, ground := Ground.guard }], guard := some (11, true) }) (v := ?_) rfl (by kernel_rfl) (by kernel_rfl) (by kernel_rfl) (fun _ _ _ h => h) (Or.inl ⟨by rfl, ?_⟩) (by assumption) ?_
                        rotate_left
                        · intro wy hSw; (try dsimp only at hSw); go_simp; (try with_reducible rfl)
                        try simp only [Act.put, List.setIfInBounds_toArray, List.set_cons_zero, List.set_cons_succ]
                        refine wpAnyH_ready (rs := [13]) (by kernel_rfl) (by simp) ?_
                        refine AllReadyH.cons (o := { dst := some 227, op := Op.call { callee := Callee.value (Operand.func 24), args := #[Operand.tmp 226], argTypes := #[26] }, type := 4, pos := "laws.go:345", after := #[{ on := 12, ground := Ground.data }, { on := 11, ground := Ground.chain }, { on := 11, ground := Ground.guard }], guard := some (11, true) }) rfl (fun K2 hK2 => ?_) ?_
                        · go_simp
                          (refine (HSI.out _ ?_).mono ?_; exact Kc.list (w0 := w) (cs := [(y3.heap.size, np, .slice Aq xp.length cq), (y2.heap.size, np, .slice Ap xp.length cp), (y1.heap.size, no, .slice Ao xo.length co)]) (ls := [(Aq, xp), (Ap, xp), (Ao, xo)]) (by assumption) 0 rfl; rintro e wq ⟨rfl, hb⟩; have hkn : Kc T w wq [(y3.heap.size, np, .slice Aq xp.length cq), (y2.heap.size, np, .slice Ap xp.length cp), (y1.heap.size, no, .slice Ao xo.length co)] [(Aq, xp), (Ap, xp), (Ao, xo)] := Kc.below (by assumption) hb; obtain ⟨c00, c01⟩ := hkn.cell 0 rfl; obtain ⟨c10, c11⟩ := hkn.cell 1 rfl; obtain ⟨c20, c21⟩ := hkn.cell 2 rfl; clear hb)
                          try go_wp2_with fail
                          refine hK2.out _ _ ?_ (fun hHeld => ?_)
                          · (try dsimp only); (refine ⟨?_, ?_, ?_, ?_, ?_, ?_, ?_⟩ <;> (first | assumption))
                          clear hK2 K2
                          try simp only [Act.put, List.setIfInBounds_toArray, List.set_cons_zero, List.set_cons_succ]
                          refine wpAnyH_ready (rs := [15]) (by kernel_rfl) (by simp) ?_
                          refine AllReadyH.cons (o := { dst := some 229, op := Op.call { callee := Callee.value (Operand.func 23), args := #[Operand.tmp 228], argTypes := #[26] }, type := 4, pos := "laws.go:345", after := #[{ on := 14, ground := Ground.data }, { on := 13, ground := Ground.chain }, { on := 11, ground := Ground.guard }], guard := some (11, true) }) rfl (fun K3 hK3 => ?_) ?_
                          · go_simp
                            (refine (HSS.out _ ?_).mono ?_; exact Kc.list (w0 := w) (cs := [(y3.heap.size, np, .slice Aq xp.length cq), (y2.heap.size, np, .slice Ap xp.length cp), (y1.heap.size, no, .slice Ao xo.length co)]) (ls := [(Aq, xp), (Ap, xp), (Ao, xo)]) (by assumption) 2 rfl; rintro e wq ⟨rfl, hb⟩; have hkn : Kc T w wq [(y3.heap.size, np, .slice Aq xp.length cq), (y2.heap.size, np, .slice Ap xp.length cp), (y1.heap.size, no, .slice Ao xo.length co)] [(Aq, xp), (Ap, xp), (Ao, xo)] := Kc.below (by assumption) hb; obtain ⟨c00, c01⟩ := hkn.cell 0 rfl; obtain ⟨c10, c11⟩ := hkn.cell 1 rfl; obtain ⟨c20, c21⟩ := hkn.cell 2 rfl; clear hb)
                            try go_wp2_with fail
                            refine hK3.out _ _ ?_ (fun hHeld => ?_)
                            · (try dsimp only); (refine ⟨?_, ?_, ?_, ?_, ?_, ?_, ?_⟩ <;> (first | assumption))
                            clear hK3 K3
                            try simp only [Act.put, List.setIfInBounds_toArray, List.set_cons_zero, List.set_cons_succ]
                            refine wpAnyH_take (i := 16) (oi := { dst := some 230, op := Op.binOp BinOp.neq 4 (Operand.tmp 227) (Operand.tmp 229) 4, type := 4, pos := "laws.go:345", after := #[{ on := 13, ground := Ground.data }, { on := 15, ground := Ground.data }, { on := 11, ground := Ground.guard }], guard := some (11, true) }) (v := ?_) rfl (by kernel_rfl) (by kernel_rfl) (by kernel_rfl) (fun _ _ _ h => h) (Or.inl ⟨by rfl, ?_⟩) (by assumption) ?_
                            rotate_left
                            · intro wy hSw; (try dsimp only at hSw); go_simp; (try with_reducible rfl)
                            try simp only [Act.put, List.setIfInBounds_toArray, List.set_cons_zero, List.set_cons_succ]
                            refine wpAnyH_take (i := 17) (oi := { dst := some 231, op := Op.pick (Operand.tmp 225) (Operand.tmp 230) (Operand.const (Value.bool false)), type := 4, pos := "laws.go:345", after := #[{ on := 11, ground := Ground.data }, { on := 16, ground := Ground.data }, { on := 9, ground := Ground.guard }], guard := some (9, false) }) (v := ?_) rfl (by kernel_rfl) (by kernel_rfl) (by kernel_rfl) (fun _ _ _ h => h) (Or.inl ⟨by rfl, ?_⟩) (by assumption) ?_
                            rotate_left
                            · intro wy hSw; (try dsimp only at hSw); go_simp; (try with_reducible rfl)
                            try simp only [Act.put, List.setIfInBounds_toArray, List.set_cons_zero, List.set_cons_succ]
                            refine wpAnyH_take (i := 18) (oi := { dst := some 232, op := Op.pick (Operand.tmp 223) (Operand.const (Value.bool true)) (Operand.tmp 231), type := 4, pos := "laws.go:345", after := #[{ on := 9, ground := Ground.data }, { on := 17, ground := Ground.data }], guard := none }) (v := ?_) rfl (by kernel_rfl) (by kernel_rfl) (by kernel_rfl) (fun _ _ _ h => h) (Or.inl ⟨by rfl, ?_⟩) (by assumption) ?_
                            rotate_left
                            · intro wy hSw; (try dsimp only at hSw); go_simp; (try with_reducible rfl)
                            try simp only [Act.put, List.setIfInBounds_toArray, List.set_cons_zero, List.set_cons_succ]
                            refine wpAnyH_done (by kernel_rfl) ?_ _
                            go_wp2_with fail
                            go_meet
                            exact ⟨rfl, (Kc.only (w0 := w) (cs := [(y3.heap.size, np, .slice Aq xp.length cq), (y2.heap.size, np, .slice Ap xp.length cp), (y1.heap.size, no, .slice Ao xo.length co)]) (ls := [(Aq, xp), (Ap, xp), (Ao, xo)]) (by assumption) [] [] rfl rfl)⟩
                          exact AllReadyH.nil
                        exact AllReadyH.nil
                      exact AllReadyH.nil
                case rest =>
                  as_aux_lemma =>
                    obtain ⟨rfl, hK⟩ := hcut
                    have HKi := Lib.hid hK
                    clear hK HKh HOL hl1
                    go_wp2_with fail
                    refine (ddraw_got _ len _ hl (HY.out _ HKi.out.base)).mono ?_
                    rintro e z1 ⟨_, nn, xn, Aw, cw, ws, rfl, hws, ⟨An, cn, rfl, ho, hln⟩, ho2, hb⟩
                    have HKj := Lib.hid ((((HKi.out.below hb).put ho2.read).put ho.read).box nn (.slice An xn.length cn) 26)
                    clear ho ho2 hb HKi
                    have HC0 := Lib.hid (fun W (h0 : T W) (h1 : Ints W W.heap.size An xn) (h2 : Ints W W.heap.size Aw ws) => iDual.out W nn An xn cn Aw ws cw h0 (Lib.hid h1) (Lib.hid h2))
                    have HC1 := Lib.hid (fun W (h1 : Ints W W.heap.size An xn) (h2 : Ints W W.heap.size Aw ws) => dualS_any nn An xn cn Aw ws cw W (Lib.hid h1) (Lib.hid h2))
                    have HDL := Lib.hid (fun h1 => dual_sub (n := nn) (xs := xn) (ws := ws) h1)
                    have hl1 := dual_len nn xn ws
                    obtain ⟨nd, xd, bd, hr⟩ : ∃ n x b, dualFn nn xn ws = (n, x, b) := ⟨_, _, _, rfl⟩
                    rw [hr] at HC0 HC1 HDL hl1
                    (try dsimp only at hl1)
                    clear hr hln hws
                    go_wp2_with fail
                    refine (HC0.out _ HKj.out.fact (HKj.out.list 0 rfl) (HKj.out.list 1 rfl)).mono ?_
                    rintro e z2 ⟨Ad, cd, rfl, ho, hb⟩
                    have HKk := Lib.hid (((HKj.out.below hb).put ho.read).box nd (.slice Ad xd.length cd) 26)
                    obtain ⟨b00, b01⟩ := HKk.out.cell 1 rfl
                    clear ho hb HKj HC0
                    go_wp2_with fail
                    refine (HC1.out _ (HKk.out.list 1 rfl) (HKk.out.list 2 rfl)).mono ?_
                    rintro e z3 ⟨Ae, ce, rfl, ho, hb⟩
                    have HKl := Lib.hid (((HKk.out.below hb).put ho.read).box nd (.slice Ae xd.length ce) 26)
                    clear ho hb HKk HC1 b00 b01
                    go_wp2_with fail
                    refine (fdraw_got _ len _ hl (HY.out _ HKl.out.base)).mono ?_
                    rintro e z4 ⟨_, nq, xq, u, rfl, -, ⟨Aq, cq, rfl, ho, hlq⟩, hb⟩
                    have HKm := Lib.hid ((((HKl.out.below hb).put ho.read).box nq (.slice Aq xq.length cq) 26).only (cs' := [(z4.heap.size, nq, .slice Aq xq.length cq), (z3.heap.size, nd, .slice Ae xd.length ce), (z2.heap.size, nd, .slice Ad xd.length cd), (z1.heap.size, nn, .slice An xn.length cn)]) (ls' := [(Aq, xq), (Ae, xd), (Ad, xd), (An, xn)]) [0, 1, 2, 3] [0, 1, 2, 3] rfl rfl)
                    clear ho hb HKl hlq
                    have HE := Lib.hid (fun W (h1 : Ints W W.heap.size Ad xd) (h2 : Ints W W.heap.size Ae xd) => eqS_yes nd Ad xd cd Ae ce W (Lib.hid h1) (Lib.hid h2) (by omega))
                    have HSI := Lib.hid (fun W (h1 : Ints W W.heap.size Ae xd) => subI_any nd Ae xd ce W (Lib.hid h1))
                    have HSS := Lib.hid (fun W (h1 : Ints W W.heap.size An xn) => subS_any nn An xn cn W (Lib.hid h1))
                    have HFI := Lib.hid (fun W (h0 : T W) (h1 : Ints W W.heap.size Aq xq) => iFlat.out W nq Aq xq cq u h0 (Lib.hid h1))
                    have HFS := Lib.hid (fun W (h1 : Ints W W.heap.size Aq xq) => flatS_any nq Aq xq cq u W (Lib.hid h1))
                    obtain ⟨si, hsi⟩ : ∃ b, isSub nd xd = b := ⟨_, rfl⟩
                    obtain ⟨ss, hss⟩ : ∃ b, isSub nn xn = b := ⟨_, rfl⟩
                    obtain ⟨fl, hfl⟩ : ∃ b, isFlat nq xq u = b := ⟨_, rfl⟩
                    rw [hsi] at HSI HDL
                    rw [hss] at HSS HDL
                    rw [hfl] at HFI HFS
                    clear hsi hss hfl
                    go_upto_region 36 with (fail)
                    generalize z4.alloc (.cells #[.int .i64 nq, .slice Aq xq.length cq] 26) = zw at HKm ⊢
                    have hk0 := HKm.out
                    have hkd := hk0.drew
                    obtain ⟨b00, b01⟩ := hk0.cell 0 rfl
                    obtain ⟨b10, b11⟩ := hk0.cell 1 rfl
                    obtain ⟨b20, b21⟩ := hk0.cell 2 rfl
                    obtain ⟨b30, b31⟩ := hk0.cell 3 rfl
                    cases bd
                    · skip
                      as_aux_lemma =>
                        refine wp_region_held_drew (S := (fun w' => w'.cell? ⟨z4.heap.size, 0, none⟩ = some (.int .i64 nq) ∧ w'.cell? ⟨z4.heap.size, 1, none⟩ = some (.slice Aq xq.length cq) ∧ w'.cell? ⟨z3.heap.size, 0, none⟩ = some (.int .i64 nd) ∧ w'.cell? ⟨z3.heap.size, 1, none⟩ = some (.slice Ae xd.length ce) ∧ w'.cell? ⟨z2.heap.size, 0, none⟩ = some (.int .i64 nd) ∧ w'.cell? ⟨z2.heap.size, 1, none⟩ = some (.slice Ad xd.length cd) ∧ w'.cell? ⟨z1.heap.size, 0, none⟩ = some (.int .i64 nn) ∧ w'.cell? ⟨z1.heap.size, 1, none⟩ = some (.slice An xn.length cn) ∧ Kc T w w' [(z4.heap.size, nq, .slice Aq xq.length cq), (z3.heap.size, nd, .slice Ae xd.length ce), (z2.heap.size, nd, .slice Ad xd.length cd), (z1.heap.size, nn, .slice An xn.length cn)] [(Aq, xq), (Ae, xd), (Ad, xd), (An, xn)])) (by kernel_rfl) ?_ (fun hHeld => ?_)
                        · refine ⟨?_, ?_, ?_, ?_, ?_, ?_, ?_, ?_, ?_⟩ <;> (first | assumption)
                        refine wpAnyH_take (i := 0) (oi := { dst := some 255, op := Op.move (Operand.tmp 31), type := 4, pos := "laws.go:352", after := #[], guard := none }) (v := ?_) rfl (by kernel_rfl) (by kernel_rfl) (by kernel_rfl) (fun _ _ _ h => h) (Or.inl ⟨by rfl, ?_⟩) (by assumption) ?_
                        rotate_left
                        · intro wy hSw; (try dsimp only at hSw); go_simp; (try with_reducible rfl)
                        try simp only [Act.put, List.setIfInBounds_toArray, List.set_cons_zero, List.set_cons_succ]
                        refine wpAnyH_take (i := 1) (oi := { dst := some 256, op := Op.move (Operand.tmp 33), type := 4, pos := "laws.go:352", after := #[], guard := none }) (v := ?_) rfl (by kernel_rfl) (by kernel_rfl) (by kernel_rfl) (fun _ _ _ h => h) (Or.inl ⟨by rfl, ?_⟩) (by assumption) ?_
                        rotate_left
                        · intro wy hSw; (try dsimp only at hSw); go_simp; (try with_reducible rfl)
                        try simp only [Act.put, List.setIfInBounds_toArray, List.set_cons_zero, List.set_cons_succ]
                        refine wpAnyH_take (i := 2) (oi := { dst := some 257, op := Op.binOp BinOp.eql 4 (Operand.tmp 255) (Operand.tmp 256) 4, type := 4, pos := "laws.go:352", after := #[{ on := 0, ground := Ground.data }, { on := 1, ground := Ground.data }], guard := none }) (v := ?_) rfl (by kernel_rfl) (by kernel_rfl) (by kernel_rfl) (fun _ _ _ h => h) (Or.inl ⟨by rfl, ?_⟩) (by assumption) ?_
                        rotate_left
                        · intro wy hSw; (try dsimp only at hSw); go_simp; (try with_reducible rfl)
                        try simp only [Act.put, List.setIfInBounds_toArray, List.set_cons_zero, List.set_cons_succ]
                        refine wpAnyH_take (i := 3) (oi := { dst := some 258, op := Op.move (Operand.tmp 257), type := 4, pos := "laws.go:352", after := #[{ on := 2, ground := Ground.data }], guard := none }) (v := ?_) rfl (by kernel_rfl) (by kernel_rfl) (by kernel_rfl) (fun _ _ _ h => h) (Or.inl ⟨by rfl, ?_⟩) (by assumption) ?_
                        rotate_left
                        · intro wy hSw; (try dsimp only at hSw); go_simp; (try with_reducible rfl)
                        try simp only [Act.put, List.setIfInBounds_toArray, List.set_cons_zero, List.set_cons_succ]
                        refine wpAnyH_take (i := 4) (oi := { dst := some 259, op := Op.load 26 (Operand.tmp 30), type := 26, pos := "laws.go:352", after := #[{ on := 3, ground := Ground.guard }], guard := some (3, true) }) (v := ?_) rfl (by kernel_rfl) (by kernel_rfl) (by kernel_rfl) (fun _ _ _ h => h) (Or.inl ⟨by rfl, ?_⟩) (by assumption) ?_
                        rotate_left
                        · intro wy hSw; (try dsimp only at hSw); go_simp; (try with_reducible rfl)
                        try simp only [Act.put, List.setIfInBounds_toArray, List.set_cons_zero, List.set_cons_succ]
                        refine wpAnyH_take (i := 5) (oi := { dst := some 260, op := Op.load 26 (Operand.tmp 32), type := 26, pos := "laws.go:352", after := #[{ on := 3, ground := Ground.guard }], guard := some (3, true) }) (v := ?_) rfl (by kernel_rfl) (by kernel_rfl) (by kernel_rfl) (fun _ _ _ h => h) (Or.inl ⟨by rfl, ?_⟩) (by assumption) ?_
                        rotate_left
                        · intro wy hSw; (try dsimp only at hSw); go_simp; (try with_reducible rfl)
                        try simp only [Act.put, List.setIfInBounds_toArray, List.set_cons_zero, List.set_cons_succ]
                        refine wpAnyH_ready (rs := [6]) (by kernel_rfl) (by simp) ?_
                        refine AllReadyH.cons (o := { dst := some 261, op := Op.call { callee := Callee.value (Operand.func 22), args := #[Operand.tmp 259, Operand.tmp 260], argTypes := #[26, 26] }, type := 4, pos := "laws.go:352", after := #[{ on := 4, ground := Ground.data }, { on := 5, ground := Ground.data }, { on := 3, ground := Ground.chain }, { on := 3, ground := Ground.guard }], guard := some (3, true) }) rfl (fun K1 hK1 => ?_) ?_
                        · go_simp
                          (refine (HE.out _ ?_ ?_).mono ?_; exact Kc.list (w0 := w) (cs := [(z4.heap.size, nq, .slice Aq xq.length cq), (z3.heap.size, nd, .slice Ae xd.length ce), (z2.heap.size, nd, .slice Ad xd.length cd), (z1.heap.size, nn, .slice An xn.length cn)]) (ls := [(Aq, xq), (Ae, xd), (Ad, xd), (An, xn)]) (by assumption) 2 rfl; exact Kc.list (w0 := w) (cs := [(z4.heap.size, nq, .slice Aq xq.length cq), (z3.heap.size, nd, .slice Ae xd.length ce), (z2.heap.size, nd, .slice Ad xd.length cd), (z1.heap.size, nn, .slice An xn.length cn)]) (ls := [(Aq, xq), (Ae, xd), (Ad, xd), (An, xn)]) (by assumption) 1 rfl; rintro e wq ⟨rfl, hb⟩; have hkn : Kc T w wq [(z4.heap.size, nq, .slice Aq xq.length cq), (z3.heap.size, nd, .slice Ae xd.length ce), (z2.heap.size, nd, .slice Ad xd.length cd), (z1.heap.size, nn, .slice An xn.length cn)] [(Aq, xq), (Ae, xd), (Ad, xd), (An, xn)] := Kc.below (by assumption) hb; obtain ⟨c00, c01⟩ := hkn.cell 0 rfl; obtain ⟨c10, c11⟩ := hkn.cell 1 rfl; obtain ⟨c20, c21⟩ := hkn.cell 2 rfl; obtain ⟨c30, c31⟩ := hkn.cell 3 rfl; clear hb)
                          try go_wp2_with fail
                          refine hK1.out _ _ ?_ (fun hHeld => ?_)
                          · (try dsimp only); (refine ⟨?_, ?_, ?_, ?_, ?_, ?_, ?_, ?_, ?_⟩ <;> (first | assumption))
                          clear hK1 K1
                          try simp only [Act.put, List.setIfInBounds_toArray, List.set_cons_zero, List.set_cons_succ]
                          refine wpAnyH_take (i := 7) (oi := { dst := some 262, op := Op.pick (Operand.tmp 258) (Operand.tmp 261) (Operand.const (Value.bool false)), type := 4, pos := "laws.go:352", after := #[{ on := 3, ground := Ground.data }, { on := 6, ground := Ground.data }], guard := none }) (v := ?_) rfl (by kernel_rfl) (by kernel_rfl) (by kernel_rfl) (fun _ _ _ h => h) (Or.inl ⟨by rfl, ?_⟩) (by assumption) ?_
                          rotate_left
                          · intro wy hSw; (try dsimp only at hSw); go_simp; (try with_reducible rfl)
                          try simp only [Act.put, List.setIfInBounds_toArray, List.set_cons_zero, List.set_cons_succ]
                          refine wpAnyH_take (i := 8) (oi := { dst := some 263, op := Op.move (Operand.tmp 262), type := 4, pos := "laws.go:352", after := #[{ on := 7, ground := Ground.data }, { on := 6, ground := Ground.chain }], guard := none }) (v := ?_) rfl (by kernel_rfl) (by kernel_rfl) (by kernel_rfl) (fun _ _ _ h => h) (Or.inl ⟨by rfl, ?_⟩) (by assumption) ?_
                          rotate_left
                          · intro wy hSw; (try dsimp only at hSw); go_simp; (try with_reducible rfl)
                          try simp only [Act.put, List.setIfInBounds_toArray, List.set_cons_zero, List.set_cons_succ]
                          refine wpAnyH_take (i := 9) (oi := { dst := some 264, op := Op.move (Operand.tmp 31), type := 4, pos := "laws.go:352", after := #[{ on := 8, ground := Ground.guard }], guard := some (8, true) }) (v := ?_) rfl (by kernel_rfl) (by kernel_rfl) (by kernel_rfl) (fun _ _ _ h => h) (Or.inl ⟨by rfl, ?_⟩) (by assumption) ?_
                          rotate_left
                          · intro wy hSw; (try dsimp only at hSw); go_simp; (try with_reducible rfl)
                          try simp only [Act.put, List.setIfInBounds_toArray, List.set_cons_zero, List.set_cons_succ]
                          refine wpAnyH_take (i := 10) (oi := { dst := some 265, op := Op.unOp UnOp.not 4 (Operand.tmp 264), type := 4, pos := "laws.go:352", after := #[{ on := 9, ground := Ground.data }, { on := 8, ground := Ground.guard }], guard := some (8, true) }) (v := ?_) rfl (by kernel_rfl) (by kernel_rfl) (by kernel_rfl) (fun _ _ _ h => h) (Or.inl ⟨by rfl, ?_⟩) (by assumption) ?_
                          rotate_left
                          · intro wy hSw; (try dsimp only at hSw); go_simp; (try with_reducible rfl)
                          try simp only [Act.put, List.setIfInBounds_toArray, List.set_cons_zero, List.set_cons_succ]
                          refine wpAnyH_take (i := 11) (oi := { dst := some 266, op := Op.move (Operand.tmp 265), type := 4, pos := "laws.go:352", after := #[{ on := 10, ground := Ground.data }, { on := 8, ground := Ground.chain }, { on := 8, ground := Ground.guard }], guard := some (8, true) }) (v := ?_) rfl (by kernel_rfl) (by kernel_rfl) (by kernel_rfl) (fun _ _ _ h => h) (Or.inl ⟨by rfl, ?_⟩) (by assumption) ?_
                          rotate_left
                          · intro wy hSw; (try dsimp only at hSw); go_simp; (try with_reducible rfl)
                          try simp only [Act.put, List.setIfInBounds_toArray, List.set_cons_zero, List.set_cons_succ]
                          refine wpAnyH_take (i := 12) (oi := { dst := some 267, op := Op.load 26 (Operand.tmp 32), type := 26, pos := "laws.go:352", after := #[{ on := 11, ground := Ground.guard }], guard := some (11, false) }) (v := undef) rfl (by kernel_rfl) (by kernel_rfl) (by kernel_rfl) (fun _ _ _ h => h) (Or.inr ⟨by rfl, rfl⟩) (by assumption) ?_
                          try simp only [Act.put, List.setIfInBounds_toArray, List.set_cons_zero, List.set_cons_succ]
                          refine wpAnyH_take (i := 14) (oi := { dst := some 269, op := Op.load 26 (Operand.tmp 28), type := 26, pos := "laws.go:352", after := #[{ on := 11, ground := Ground.guard }], guard := some (11, false) }) (v := undef) rfl (by kernel_rfl) (by kernel_rfl) (by kernel_rfl) (fun _ _ _ h => h) (Or.inr ⟨by rfl, rfl⟩) (by assumption) ?_
                          try simp only [Act.put, List.setIfInBounds_toArray, List.set_cons_zero, List.set_cons_succ]
                          refine wpAnyH_ready (rs := [13]) (by kernel_rfl) (by simp) ?_
                          refine AllReadyH.cons (o := { dst := some 268, op := Op.call { callee := Callee.value (Operand.func 24), args := #[Operand.tmp 267], argTypes := #[26] }, type := 4, pos := "laws.go:352", after := #[{ on := 12, ground := Ground.data }, { on := 11, ground := Ground.chain }, { on := 11, ground := Ground.guard }], guard := some (11, false) }) rfl (fun K2 hK2 => ?_) ?_
                          · go_simp
                            refine hK2.out _ _ ?_ (fun hHeld => ?_)
                            · (try dsimp only); (assumption)
                            clear hK2 K2
                            try simp only [Act.put, List.setIfInBounds_toArray, List.set_cons_zero, List.set_cons_succ]
                            refine wpAnyH_ready (rs := [15]) (by kernel_rfl) (by simp) ?_
                            refine AllReadyH.cons (o := { dst := some 270, op := Op.call { callee := Callee.value (Operand.func 23), args := #[Operand.tmp 269], argTypes := #[26] }, type := 4, pos := "laws.go:352", after := #[{ on := 14, ground := Ground.data }, { on := 13, ground := Ground.chain }, { on := 11, ground := Ground.guard }], guard := some (11, false) }) rfl (fun K3 hK3 => ?_) ?_
                            · go_simp
                              refine hK3.out _ _ ?_ (fun hHeld => ?_)
                              · (try dsimp only); (assumption)
                              clear hK3 K3
                              try simp only [Act.put, List.setIfInBounds_toArray, List.set_cons_zero, List.set_cons_succ]
                              refine wpAnyH_take (i := 16) (oi := { dst := some 271, op := Op.binOp BinOp.eql 4 (Operand.tmp 268) (Operand.tmp 270) 4, type := 4, pos := "laws.go:352", after := #[{ on := 13, ground := Ground.data }, { on := 15, ground := Ground.data }, { on := 11, ground := Ground.guard }], guard := some (11, false) }) (v := undef) rfl (by kernel_rfl) (by kernel_rfl) (by kernel_rfl) (fun _ _ _ h => h) (Or.inr ⟨by rfl, rfl⟩) (by assumption) ?_
                              try simp only [Act.put, List.setIfInBounds_toArray, List.set_cons_zero, List.set_cons_succ]
                              refine wpAnyH_take (i := 17) (oi := { dst := some 272, op := Op.pick (Operand.tmp 266) (Operand.const (Value.bool true)) (Operand.tmp 271), type := 4, pos := "laws.go:352", after := #[{ on := 11, ground := Ground.data }, { on := 16, ground := Ground.data }, { on := 8, ground := Ground.guard }], guard := some (8, true) }) (v := ?_) rfl (by kernel_rfl) (by kernel_rfl) (by kernel_rfl) (fun _ _ _ h => h) (Or.inl ⟨by rfl, ?_⟩) (by assumption) ?_
                              rotate_left
                              · intro wy hSw; (try dsimp only at hSw); go_simp; (try with_reducible rfl)
                              try simp only [Act.put, List.setIfInBounds_toArray, List.set_cons_zero, List.set_cons_succ]
                              refine wpAnyH_take (i := 18) (oi := { dst := some 273, op := Op.pick (Operand.tmp 263) (Operand.tmp 272) (Operand.const (Value.bool false)), type := 4, pos := "laws.go:352", after := #[{ on := 8, ground := Ground.data }, { on := 17, ground := Ground.data }], guard := none }) (v := ?_) rfl (by kernel_rfl) (by kernel_rfl) (by kernel_rfl) (fun _ _ _ h => h) (Or.inl ⟨by rfl, ?_⟩) (by assumption) ?_
                              rotate_left
                              · intro wy hSw; (try dsimp only at hSw); go_simp; (try with_reducible rfl)
                              try simp only [Act.put, List.setIfInBounds_toArray, List.set_cons_zero, List.set_cons_succ]
                              refine wpAnyH_take (i := 19) (oi := { dst := some 274, op := Op.move (Operand.tmp 273), type := 4, pos := "laws.go:352", after := #[{ on := 18, ground := Ground.data }, { on := 15, ground := Ground.chain }], guard := none }) (v := ?_) rfl (by kernel_rfl) (by kernel_rfl) (by kernel_rfl) (fun _ _ _ h => h) (Or.inl ⟨by rfl, ?_⟩) (by assumption) ?_
                              rotate_left
                              · intro wy hSw; (try dsimp only at hSw); go_simp; (try with_reducible rfl)
                              try simp only [Act.put, List.setIfInBounds_toArray, List.set_cons_zero, List.set_cons_succ]
                              refine wpAnyH_take (i := 20) (oi := { dst := some 275, op := Op.load 26 (Operand.tmp 34), type := 26, pos := "laws.go:352", after := #[{ on := 19, ground := Ground.guard }], guard := some (19, true) }) (v := ?_) rfl (by kernel_rfl) (by kernel_rfl) (by kernel_rfl) (fun _ _ _ h => h) (Or.inl ⟨by rfl, ?_⟩) (by assumption) ?_
                              rotate_left
                              · intro wy hSw; (try dsimp only at hSw); go_simp; (try with_reducible rfl)
                              try simp only [Act.put, List.setIfInBounds_toArray, List.set_cons_zero, List.set_cons_succ]
                              refine wpAnyH_take (i := 21) (oi := { dst := some 276, op := Op.move (Operand.tmp 35), type := 3, pos := "laws.go:352", after := #[{ on := 19, ground := Ground.guard }], guard := some (19, true) }) (v := ?_) rfl (by kernel_rfl) (by kernel_rfl) (by kernel_rfl) (fun _ _ _ h => h) (Or.inl ⟨by rfl, ?_⟩) (by assumption) ?_
                              rotate_left
                              · intro wy hSw; (try dsimp only at hSw); go_simp; (try with_reducible rfl)
                              try simp only [Act.put, List.setIfInBounds_toArray, List.set_cons_zero, List.set_cons_succ]
                              refine wpAnyH_take (i := 23) (oi := { dst := some 278, op := Op.load 26 (Operand.tmp 34), type := 26, pos := "laws.go:352", after := #[{ on := 19, ground := Ground.guard }], guard := some (19, true) }) (v := ?_) rfl (by kernel_rfl) (by kernel_rfl) (by kernel_rfl) (fun _ _ _ h => h) (Or.inl ⟨by rfl, ?_⟩) (by assumption) ?_
                              rotate_left
                              · intro wy hSw; (try dsimp only at hSw); go_simp; (try with_reducible rfl)
                              try simp only [Act.put, List.setIfInBounds_toArray, List.set_cons_zero, List.set_cons_succ]
                              refine wpAnyH_take (i := 24) (oi := { dst := some 279, op := Op.move (Operand.tmp 35), type := 3, pos := "laws.go:352", after := #[{ on := 19, ground := Ground.guard }], guard := some (19, true) }) (v := ?_) rfl (by kernel_rfl) (by kernel_rfl) (by kernel_rfl) (fun _ _ _ h => h) (Or.inl ⟨by rfl, ?_⟩) (by assumption) ?_
                              rotate_left
                              · intro wy hSw; (try dsimp only at hSw); go_simp; (try with_reducible rfl)
                              try simp only [Act.put, List.setIfInBounds_toArray, List.set_cons_zero, List.set_cons_succ]
                              refine wpAnyH_ready (rs := [22]) (by kernel_rfl) (by simp) ?_
                              refine AllReadyH.cons (o := { dst := some 277, op := Op.call { callee := Callee.value (Operand.func 10), args := #[Operand.tmp 275, Operand.tmp 276], argTypes := #[26, 3] }, type := 4, pos := "laws.go:352", after := #[{ on := 20, ground := Ground.data }, { on := 21, ground := Ground.data }, { on := 19, ground := Ground.chain }, { on := 19, ground := Ground.guard }], guard := some (19, true) }) rfl (fun K4 hK4 => ?_) ?_
                              · go_simp
                                (refine (HFI.out _ ?_ ?_).mono ?_; exact Kc.fact (w0 := w) (cs := [(z4.heap.size, nq, .slice Aq xq.length cq), (z3.heap.size, nd, .slice Ae xd.length ce), (z2.heap.size, nd, .slice Ad xd.length cd), (z1.heap.size, nn, .slice An xn.length cn)]) (ls := [(Aq, xq), (Ae, xd), (Ad, xd), (An, xn)]) (by assumption); exact Kc.list (w0 := w) (cs := [(z4.heap.size, nq, .slice Aq xq.length cq), (z3.heap.size, nd, .slice Ae xd.length ce), (z2.heap.size, nd, .slice Ad xd.length cd), (z1.heap.size, nn, .slice An xn.length cn)]) (ls := [(Aq, xq), (Ae, xd), (Ad, xd), (An, xn)]) (by assumption) 0 rfl; rintro e wq ⟨rfl, hb⟩; have hkn : Kc T w wq [(z4.heap.size, nq, .slice Aq xq.length cq), (z3.heap.size, nd, .slice Ae xd.length ce), (z2.heap.size, nd, .slice Ad xd.length cd), (z1.heap.size, nn, .slice An xn.length cn)] [(Aq, xq), (Ae, xd), (Ad, xd), (An, xn)] := Kc.below (by assumption) hb; obtain ⟨c00, c01⟩ := hkn.cell 0 rfl; obtain ⟨c10, c11⟩ := hkn.cell 1 rfl; obtain ⟨c20, c21⟩ := hkn.cell 2 rfl; obtain ⟨c30, c31⟩ := hkn.cell 3 rfl; clear hb)
                                try go_wp2_with fail
                                refine hK4.out _ _ ?_ (fun hHeld => ?_)
                                · (try dsimp only); (refine ⟨?_, ?_, ?_, ?_, ?_, ?_, ?_, ?_, ?_⟩ <;> (first | assumption))
                                clear hK4 K4
                                try simp only [Act.put, List.setIfInBounds_toArray, List.set_cons_zero, List.set_cons_succ]
                                refine wpAnyH_ready (rs := [25]) (by kernel_rfl) (by simp) ?_
                                refine AllReadyH.cons (o := { dst := some 280, op := Op.call { callee := Callee.value (Operand.func 33), args := #[Operand.tmp 278, Operand.tmp 279], argTypes := #[26, 3] }, type := 4, pos := "laws.go:352", after := #[{ on := 23, ground := Ground.data }, { on := 24, ground := Ground.data }, { on := 22, ground := Ground.chain }, { on := 19, ground := Ground.guard }], guard := some (19, true) }) rfl (fun K5 hK5 => ?_) ?_
                                · go_simp
                                  (refine (HFS.out _ ?_).mono ?_; exact Kc.list (w0 := w) (cs := [(z4.heap.size, nq, .slice Aq xq.length cq), (z3.heap.size, nd, .slice Ae xd.length ce), (z2.heap.size, nd, .slice Ad xd.length cd), (z1.heap.size, nn, .slice An xn.length cn)]) (ls := [(Aq, xq), (Ae, xd), (Ad, xd), (An, xn)]) (by assumption) 0 rfl; rintro e wq ⟨rfl, hb⟩; have hkn : Kc T w wq [(z4.heap.size, nq, .slice Aq xq.length cq), (z3.heap.size, nd, .slice Ae xd.length ce), (z2.heap.size, nd, .slice Ad xd.length cd), (z1.heap.size, nn, .slice An xn.length cn)] [(Aq, xq), (Ae, xd), (Ad, xd), (An, xn)] := Kc.below (by assumption) hb; obtain ⟨c00, c01⟩ := hkn.cell 0 rfl; obtain ⟨c10, c11⟩ := hkn.cell 1 rfl; obtain ⟨c20, c21⟩ := hkn.cell 2 rfl; obtain ⟨c30, c31⟩ := hkn.cell 3 rfl; clear hb)
                                  try go_wp2_with fail
                                  refine hK5.out _ _ ?_ (fun hHeld => ?_)
                                  · (try dsimp only); (refine ⟨?_, ?_, ?_, ?_, ?_, ?_, ?_, ?_, ?_⟩ <;> (first | assumption))
                                  clear hK5 K5
                                  try simp only [Act.put, List.setIfInBounds_toArray, List.set_cons_zero, List.set_cons_succ]
                                  refine wpAnyH_take (i := 26) (oi := { dst := some 281, op := Op.binOp BinOp.eql 4 (Operand.tmp 277) (Operand.tmp 280) 4, type := 4, pos := "laws.go:352", after := #[{ on := 22, ground := Ground.data }, { on := 25, ground := Ground.data }, { on := 19, ground := Ground.guard }], guard := some (19, true) }) (v := ?_) rfl (by kernel_rfl) (by kernel_rfl) (by kernel_rfl) (fun _ _ _ h => h) (Or.inl ⟨by rfl, ?_⟩) (by assumption) ?_
                                  rotate_left
                                  · intro wy hSw; (try dsimp only at hSw); go_simp; (try with_reducible rfl)
                                  try simp only [Act.put, List.setIfInBounds_toArray, List.set_cons_zero, List.set_cons_succ]
                                  refine wpAnyH_take (i := 27) (oi := { dst := some 282, op := Op.pick (Operand.tmp 274) (Operand.tmp 281) (Operand.const (Value.bool false)), type := 4, pos := "laws.go:352", after := #[{ on := 19, ground := Ground.data }, { on := 26, ground := Ground.data }], guard := none }) (v := ?_) rfl (by kernel_rfl) (by kernel_rfl) (by kernel_rfl) (fun _ _ _ h => h) (Or.inl ⟨by rfl, ?_⟩) (by assumption) ?_
                                  rotate_left
                                  · intro wy hSw; (try dsimp only at hSw); go_simp; (try with_reducible rfl)
                                  try simp only [Act.put, List.setIfInBounds_toArray, List.set_cons_zero, List.set_cons_succ]
                                  refine wpAnyH_take (i := 28) (oi := { dst := some 2, op := Op.assign (Operand.tmp 282), type := 4, pos := "laws.go:352", after := #[{ on := 27, ground := Ground.data }, { on := 25, ground := Ground.chain }, { on := 0, ground := Ground.phase }, { on := 1, ground := Ground.phase }, { on := 2, ground := Ground.phase }, { on := 3, ground := Ground.phase }, { on := 4, ground := Ground.phase }, { on := 5, ground := Ground.phase }, { on := 6, ground := Ground.phase }, { on := 7, ground := Ground.phase }, { on := 8, ground := Ground.phase }, { on := 9, ground := Ground.phase }, { on := 10, ground := Ground.phase }, { on := 11, ground := Ground.phase }, { on := 12, ground := Ground.phase }, { on := 13, ground := Ground.phase }, { on := 14, ground := Ground.phase }, { on := 15, ground := Ground.phase }, { on := 16, ground := Ground.phase }, { on := 17, ground := Ground.phase }, { on := 18, ground := Ground.phase }, { on := 19, ground := Ground.phase }, { on := 20, ground := Ground.phase }, { on := 21, ground := Ground.phase }, { on := 22, ground := Ground.phase }, { on := 23, ground := Ground.phase }, { on := 24, ground := Ground.phase }, { on := 25, ground := Ground.phase }, { on := 26, ground := Ground.phase }, { on := 27, ground := Ground.phase }], guard := none }) (v := ?_) rfl (by kernel_rfl) (by kernel_rfl) (by kernel_rfl) (fun _ _ _ h => h) (Or.inl ⟨by rfl, ?_⟩) (by assumption) ?_
                                  rotate_left
                                  · intro wy hSw; (try dsimp only at hSw); go_simp; (try with_reducible rfl)
                                  try simp only [Act.put, List.setIfInBounds_toArray, List.set_cons_zero, List.set_cons_succ]
                                  refine wpAnyH_done (by kernel_rfl) ?_ _
                                  go_wp2_with fail
                                  go_ret
                                  exact ⟨rfl, Kc.base (w0 := w) (cs := [(z4.heap.size, nq, .slice Aq xq.length cq), (z3.heap.size, nd, .slice Ae xd.length ce), (z2.heap.size, nd, .slice Ad xd.length cd), (z1.heap.size, nn, .slice An xn.length cn)]) (ls := [(Aq, xq), (Ae, xd), (Ad, xd), (An, xn)]) (by assumption)⟩
                                exact AllReadyH.nil
                              exact AllReadyH.nil
                            exact AllReadyH.nil
                          exact AllReadyH.nil
                        exact AllReadyH.nil
                    · obtain rfl : si = ss := HDL.out rfl
                      as_aux_lemma =>
                        refine wp_region_held_drew (S := (fun w' => w'.cell? ⟨z4.heap.size, 0, none⟩ = some (.int .i64 nq) ∧ w'.cell? ⟨z4.heap.size, 1, none⟩ = some (.slice Aq xq.length cq) ∧ w'.cell? ⟨z3.heap.size, 0, none⟩ = some (.int .i64 nd) ∧ w'.cell? ⟨z3.heap.size, 1, none⟩ = some (.slice Ae xd.length ce) ∧ w'.cell? ⟨z2.heap.size, 0, none⟩ = some (.int .i64 nd) ∧ w'.cell? ⟨z2.heap.size, 1, none⟩ = some (.slice Ad xd.length cd) ∧ w'.cell? ⟨z1.heap.size, 0, none⟩ = some (.int .i64 nn) ∧ w'.cell? ⟨z1.heap.size, 1, none⟩ = some (.slice An xn.length cn) ∧ Kc T w w' [(z4.heap.size, nq, .slice Aq xq.length cq), (z3.heap.size, nd, .slice Ae xd.length ce), (z2.heap.size, nd, .slice Ad xd.length cd), (z1.heap.size, nn, .slice An xn.length cn)] [(Aq, xq), (Ae, xd), (Ad, xd), (An, xn)])) (by kernel_rfl) ?_ (fun hHeld => ?_)
                        · refine ⟨?_, ?_, ?_, ?_, ?_, ?_, ?_, ?_, ?_⟩ <;> (first | assumption)
                        refine wpAnyH_take (i := 0) (oi := { dst := some 255, op := Op.move (Operand.tmp 31), type := 4, pos := "laws.go:352", after := #[], guard := none }) (v := ?_) rfl (by kernel_rfl) (by kernel_rfl) (by kernel_rfl) (fun _ _ _ h => h) (Or.inl ⟨by rfl, ?_⟩) (by assumption) ?_
                        rotate_left
                        · intro wy hSw; (try dsimp only at hSw); go_simp; (try with_reducible rfl)
                        try simp only [Act.put, List.setIfInBounds_toArray, List.set_cons_zero, List.set_cons_succ]
                        refine wpAnyH_take (i := 1) (oi := { dst := some 256, op := Op.move (Operand.tmp 33), type := 4, pos := "laws.go:352", after := #[], guard := none }) (v := ?_) rfl (by kernel_rfl) (by kernel_rfl) (by kernel_rfl) (fun _ _ _ h => h) (Or.inl ⟨by rfl, ?_⟩) (by assumption) ?_
                        rotate_left
                        · intro wy hSw; (try dsimp only at hSw); go_simp; (try with_reducible rfl)
                        try simp only [Act.put, List.setIfInBounds_toArray, List.set_cons_zero, List.set_cons_succ]
                        refine wpAnyH_take (i := 2) (oi := { dst := some 257, op := Op.binOp BinOp.eql 4 (Operand.tmp 255) (Operand.tmp 256) 4, type := 4, pos := "laws.go:352", after := #[{ on := 0, ground := Ground.data }, { on := 1, ground := Ground.data }], guard := none }) (v := ?_) rfl (by kernel_rfl) (by kernel_rfl) (by kernel_rfl) (fun _ _ _ h => h) (Or.inl ⟨by rfl, ?_⟩) (by assumption) ?_
                        rotate_left
                        · intro wy hSw; (try dsimp only at hSw); go_simp; (try with_reducible rfl)
                        try simp only [Act.put, List.setIfInBounds_toArray, List.set_cons_zero, List.set_cons_succ]
                        refine wpAnyH_take (i := 3) (oi := { dst := some 258, op := Op.move (Operand.tmp 257), type := 4, pos := "laws.go:352", after := #[{ on := 2, ground := Ground.data }], guard := none }) (v := ?_) rfl (by kernel_rfl) (by kernel_rfl) (by kernel_rfl) (fun _ _ _ h => h) (Or.inl ⟨by rfl, ?_⟩) (by assumption) ?_
                        rotate_left
                        · intro wy hSw; (try dsimp only at hSw); go_simp; (try with_reducible rfl)
                        try simp only [Act.put, List.setIfInBounds_toArray, List.set_cons_zero, List.set_cons_succ]
                        refine wpAnyH_take (i := 4) (oi := { dst := some 259, op := Op.load 26 (Operand.tmp 30), type := 26, pos := "laws.go:352", after := #[{ on := 3, ground := Ground.guard }], guard := some (3, true) }) (v := ?_) rfl (by kernel_rfl) (by kernel_rfl) (by kernel_rfl) (fun _ _ _ h => h) (Or.inl ⟨by rfl, ?_⟩) (by assumption) ?_
                        rotate_left
                        · intro wy hSw; (try dsimp only at hSw); go_simp; (try with_reducible rfl)
                        try simp only [Act.put, List.setIfInBounds_toArray, List.set_cons_zero, List.set_cons_succ]
                        refine wpAnyH_take (i := 5) (oi := { dst := some 260, op := Op.load 26 (Operand.tmp 32), type := 26, pos := "laws.go:352", after := #[{ on := 3, ground := Ground.guard }], guard := some (3, true) }) (v := ?_) rfl (by kernel_rfl) (by kernel_rfl) (by kernel_rfl) (fun _ _ _ h => h) (Or.inl ⟨by rfl, ?_⟩) (by assumption) ?_
                        rotate_left
                        · intro wy hSw; (try dsimp only at hSw); go_simp; (try with_reducible rfl)
                        try simp only [Act.put, List.setIfInBounds_toArray, List.set_cons_zero, List.set_cons_succ]
                        refine wpAnyH_ready (rs := [6]) (by kernel_rfl) (by simp) ?_
                        refine AllReadyH.cons (o := { dst := some 261, op := Op.call { callee := Callee.value (Operand.func 22), args := #[Operand.tmp 259, Operand.tmp 260], argTypes := #[26, 26] }, type := 4, pos := "laws.go:352", after := #[{ on := 4, ground := Ground.data }, { on := 5, ground := Ground.data }, { on := 3, ground := Ground.chain }, { on := 3, ground := Ground.guard }], guard := some (3, true) }) rfl (fun K1 hK1 => ?_) ?_
                        · go_simp
                          (refine (HE.out _ ?_ ?_).mono ?_; exact Kc.list (w0 := w) (cs := [(z4.heap.size, nq, .slice Aq xq.length cq), (z3.heap.size, nd, .slice Ae xd.length ce), (z2.heap.size, nd, .slice Ad xd.length cd), (z1.heap.size, nn, .slice An xn.length cn)]) (ls := [(Aq, xq), (Ae, xd), (Ad, xd), (An, xn)]) (by assumption) 2 rfl; exact Kc.list (w0 := w) (cs := [(z4.heap.size, nq, .slice Aq xq.length cq), (z3.heap.size, nd, .slice Ae xd.length ce), (z2.heap.size, nd, .slice Ad xd.length cd), (z1.heap.size, nn, .slice An xn.length cn)]) (ls := [(Aq, xq), (Ae, xd), (Ad, xd), (An, xn)]) (by assumption) 1 rfl; rintro e wq ⟨rfl, hb⟩; have hkn : Kc T w wq [(z4.heap.size, nq, .slice Aq xq.length cq), (z3.heap.size, nd, .slice Ae xd.length ce), (z2.heap.size, nd, .slice Ad xd.length cd), (z1.heap.size, nn, .slice An xn.length cn)] [(Aq, xq), (Ae, xd), (Ad, xd), (An, xn)] := Kc.below (by assumption) hb; obtain ⟨c00, c01⟩ := hkn.cell 0 rfl; obtain ⟨c10, c11⟩ := hkn.cell 1 rfl; obtain ⟨c20, c21⟩ := hkn.cell 2 rfl; obtain ⟨c30, c31⟩ := hkn.cell 3 rfl; clear hb)
                          try go_wp2_with fail
                          refine hK1.out _ _ ?_ (fun hHeld => ?_)
                          · (try dsimp only); (refine ⟨?_, ?_, ?_, ?_, ?_, ?_, ?_, ?_, ?_⟩ <;> (first | assumption))
                          clear hK1 K1
                          try simp only [Act.put, List.setIfInBounds_toArray, List.set_cons_zero, List.set_cons_succ]
                          refine wpAnyH_take (i := 7) (oi := { dst := some 262, op := Op.pick (Operand.tmp 258) (Operand.tmp 261) (Operand.const (Value.bool false)), type := 4, pos := "laws.go:352", after := #[{ on := 3, ground := Ground.data }, { on := 6, ground := Ground.data }], guard := none }) (v := ?_) rfl (by kernel_rfl) (by kernel_rfl) (by kernel_rfl) (fun _ _ _ h => h) (Or.inl ⟨by rfl, ?_⟩) (by assumption) ?_
                          rotate_left
                          · intro wy hSw; (try dsimp only at hSw); go_simp; (try with_reducible rfl)
                          try simp only [Act.put, List.setIfInBounds_toArray, List.set_cons_zero, List.set_cons_succ]
                          refine wpAnyH_take (i := 8) (oi := { dst := some 263, op := Op.move (Operand.tmp 262), type := 4, pos := "laws.go:352", after := #[{ on := 7, ground := Ground.data }, { on := 6, ground := Ground.chain }], guard := none }) (v := ?_) rfl (by kernel_rfl) (by kernel_rfl) (by kernel_rfl) (fun _ _ _ h => h) (Or.inl ⟨by rfl, ?_⟩) (by assumption) ?_
                          rotate_left
                          · intro wy hSw; (try dsimp only at hSw); go_simp; (try with_reducible rfl)
                          try simp only [Act.put, List.setIfInBounds_toArray, List.set_cons_zero, List.set_cons_succ]
                          refine wpAnyH_take (i := 9) (oi := { dst := some 264, op := Op.move (Operand.tmp 31), type := 4, pos := "laws.go:352", after := #[{ on := 8, ground := Ground.guard }], guard := some (8, true) }) (v := ?_) rfl (by kernel_rfl) (by kernel_rfl) (by kernel_rfl) (fun _ _ _ h => h) (Or.inl ⟨by rfl, ?_⟩) (by assumption) ?_
                          rotate_left
                          · intro wy hSw; (try dsimp only at hSw); go_simp; (try with_reducible rfl)
                          try simp only [Act.put, List.setIfInBounds_toArray, List.set_cons_zero, List.set_cons_succ]
                          refine wpAnyH_take (i := 10) (oi := { dst := some 265, op := Op.unOp UnOp.not 4 (Operand.tmp 264), type := 4, pos := "laws.go:352", after := #[{ on := 9, ground := Ground.data }, { on := 8, ground := Ground.guard }], guard := some (8, true) }) (v := ?_) rfl (by kernel_rfl) (by kernel_rfl) (by kernel_rfl) (fun _ _ _ h => h) (Or.inl ⟨by rfl, ?_⟩) (by assumption) ?_
                          rotate_left
                          · intro wy hSw; (try dsimp only at hSw); go_simp; (try with_reducible rfl)
                          try simp only [Act.put, List.setIfInBounds_toArray, List.set_cons_zero, List.set_cons_succ]
                          refine wpAnyH_take (i := 11) (oi := { dst := some 266, op := Op.move (Operand.tmp 265), type := 4, pos := "laws.go:352", after := #[{ on := 10, ground := Ground.data }, { on := 8, ground := Ground.chain }, { on := 8, ground := Ground.guard }], guard := some (8, true) }) (v := ?_) rfl (by kernel_rfl) (by kernel_rfl) (by kernel_rfl) (fun _ _ _ h => h) (Or.inl ⟨by rfl, ?_⟩) (by assumption) ?_
                          rotate_left
                          · intro wy hSw; (try dsimp only at hSw); go_simp; (try with_reducible rfl)
                          try simp only [Act.put, List.setIfInBounds_toArray, List.set_cons_zero, List.set_cons_succ]
                          refine wpAnyH_take (i := 12) (oi := { dst := some 267, op := Op.load 26 (Operand.tmp 32), type := 26, pos := "laws.go:352", after := #[{ on := 11, ground := Ground.guard }], guard := some (11, false) }) (v := ?_) rfl (by kernel_rfl) (by kernel_rfl) (by kernel_rfl) (fun _ _ _ h => h) (Or.inl ⟨by rfl, ?_⟩) (by assumption) ?_
                          rotate_left
                          · intro wy hSw; (try dsimp only at hSw); go_simp; (try with_reducible rfl)
                          try simp only [Act.put, List.setIfInBounds_toArray, List.set_cons_zero, List.set_cons_succ]
                          refine wpAnyH_take (i := 14) (oi := { dst := some 269, op := Op.load 26 (Operand.tmp 28), type := 26, pos := "laws.go:352", after := #[{ on := 11, ground := Ground.guard }], guard := some (11, false) }) (v := ?_) rfl (by kernel_rfl) (by kernel_rfl) (by kernel_rfl) (fun _ _ _ h => h) (Or.inl ⟨by rfl, ?_⟩) (by assumption) ?_
                          rotate_left
                          · intro wy hSw; (try dsimp only at hSw); go_simp; (try with_reducible rfl)
                          try simp only [Act.put, List.setIfInBounds_toArray, List.set_cons_zero, List.set_cons_succ]
                          refine wpAnyH_ready (rs := [13]) (by kernel_rfl) (by simp) ?_
                          refine AllReadyH.cons (o := { dst := some 268, op := Op.call { callee := Callee.value (Operand.func 24), args := #[Operand.tmp 267], argTypes := #[26] }, type := 4, pos := "laws.go:352", after := #[{ on := 12, ground := Ground.data }, { on := 11, ground := Ground.chain }, { on := 11, ground := Ground.guard }], guard := some (11, false) }) rfl (fun K2 hK2 => ?_) ?_
                          · go_simp
                            (refine (HSI.out _ ?_).mono ?_; exact Kc.list (w0 := w) (cs := [(z4.heap.size, nq, .slice Aq xq.length cq), (z3.heap.size, nd, .slice Ae xd.length ce), (z2.heap.size, nd, .slice Ad xd.length cd), (z1.heap.size, nn, .slice An xn.length cn)]) (ls := [(Aq, xq), (Ae, xd), (Ad, xd), (An, xn)]) (by assumption) 1 rfl; rintro e wq ⟨rfl, hb⟩; have hkn : Kc T w wq [(z4.heap.size, nq, .slice Aq xq.length cq), (z3.heap.size, nd, .slice Ae xd.length ce), (z2.heap.size, nd, .slice Ad xd.length cd), (z1.heap.size, nn, .slice An xn.length cn)] [(Aq, xq), (Ae, xd), (Ad, xd), (An, xn)] := Kc.below (by assumption) hb; obtain ⟨c00, c01⟩ := hkn.cell 0 rfl; obtain ⟨c10, c11⟩ := hkn.cell 1 rfl; obtain ⟨c20, c21⟩ := hkn.cell 2 rfl; obtain ⟨c30, c31⟩ := hkn.cell 3 rfl; clear hb)
                            try go_wp2_with fail
                            refine hK2.out _ _ ?_ (fun hHeld => ?_)
                            · (try dsimp only); (refine ⟨?_, ?_, ?_, ?_, ?_, ?_, ?_, ?_, ?_⟩ <;> (first | assumption))
                            clear hK2 K2
                            try simp only [Act.put, List.setIfInBounds_toArray, List.set_cons_zero, List.set_cons_succ]
                            refine wpAnyH_ready (rs := [15]) (by kernel_rfl) (by simp) ?_
                            refine AllReadyH.cons (o := { dst := some 270, op := Op.call { callee := Callee.value (Operand.func 23), args := #[Operand.tmp 269], argTypes := #[26] }, type := 4, pos := "laws.go:352", after := #[{ on := 14, ground := Ground.data }, { on := 13, ground := Ground.chain }, { on := 11, ground := Ground.guard }], guard := some (11, false) }) rfl (fun K3 hK3 => ?_) ?_
                            · go_simp
                              (refine (HSS.out _ ?_).mono ?_; exact Kc.list (w0 := w) (cs := [(z4.heap.size, nq, .slice Aq xq.length cq), (z3.heap.size, nd, .slice Ae xd.length ce), (z2.heap.size, nd, .slice Ad xd.length cd), (z1.heap.size, nn, .slice An xn.length cn)]) (ls := [(Aq, xq), (Ae, xd), (Ad, xd), (An, xn)]) (by assumption) 3 rfl; rintro e wq ⟨rfl, hb⟩; have hkn : Kc T w wq [(z4.heap.size, nq, .slice Aq xq.length cq), (z3.heap.size, nd, .slice Ae xd.length ce), (z2.heap.size, nd, .slice Ad xd.length cd), (z1.heap.size, nn, .slice An xn.length cn)] [(Aq, xq), (Ae, xd), (Ad, xd), (An, xn)] := Kc.below (by assumption) hb; obtain ⟨c00, c01⟩ := hkn.cell 0 rfl; obtain ⟨c10, c11⟩ := hkn.cell 1 rfl; obtain ⟨c20, c21⟩ := hkn.cell 2 rfl; obtain ⟨c30, c31⟩ := hkn.cell 3 rfl; clear hb)
                              try go_wp2_with fail
                              refine hK3.out _ _ ?_ (fun hHeld => ?_)
                              · (try dsimp only); (refine ⟨?_, ?_, ?_, ?_, ?_, ?_, ?_, ?_, ?_⟩ <;> (first | assumption))
                              clear hK3 K3
                              try simp only [Act.put, List.setIfInBounds_toArray, List.set_cons_zero, List.set_cons_succ]
                              refine wpAnyH_take (i := 16) (oi := { dst := some 271, op := Op.binOp BinOp.eql 4 (Operand.tmp 268) (Operand.tmp 270) 4, type := 4, pos := "laws.go:352", after := #[{ on := 13, ground := Ground.data }, { on := 15, ground := Ground.data }, { on := 11, ground := Ground.guard }], guard := some (11, false) }) (v := ?_) rfl (by kernel_rfl) (by kernel_rfl) (by kernel_rfl) (fun _ _ _ h => h) (Or.inl ⟨by rfl, ?_⟩) (by assumption) ?_
                              rotate_left
                              · intro wy hSw; (try dsimp only at hSw); go_simp; (try with_reducible rfl)
                              try simp only [Act.put, List.setIfInBounds_toArray, List.set_cons_zero, List.set_cons_succ]
                              refine wpAnyH_take (i := 17) (oi := { dst := some 272, op := Op.pick (Operand.tmp 266) (Operand.const (Value.bool true)) (Operand.tmp 271), type := 4, pos := "laws.go:352", after := #[{ on := 11, ground := Ground.data }, { on := 16, ground := Ground.data }, { on := 8, ground := Ground.guard }], guard := some (8, true) }) (v := ?_) rfl (by kernel_rfl) (by kernel_rfl) (by kernel_rfl) (fun _ _ _ h => h) (Or.inl ⟨by rfl, ?_⟩) (by assumption) ?_
                              rotate_left
                              · intro wy hSw; (try dsimp only at hSw); go_simp; (try with_reducible rfl)
                              try simp only [Act.put, List.setIfInBounds_toArray, List.set_cons_zero, List.set_cons_succ]
                              refine wpAnyH_take (i := 18) (oi := { dst := some 273, op := Op.pick (Operand.tmp 263) (Operand.tmp 272) (Operand.const (Value.bool false)), type := 4, pos := "laws.go:352", after := #[{ on := 8, ground := Ground.data }, { on := 17, ground := Ground.data }], guard := none }) (v := ?_) rfl (by kernel_rfl) (by kernel_rfl) (by kernel_rfl) (fun _ _ _ h => h) (Or.inl ⟨by rfl, ?_⟩) (by assumption) ?_
                              rotate_left
                              · intro wy hSw; (try dsimp only at hSw); go_simp; (try with_reducible rfl)
                              try simp only [Act.put, List.setIfInBounds_toArray, List.set_cons_zero, List.set_cons_succ]
                              refine wpAnyH_take (i := 19) (oi := { dst := some 274, op := Op.move (Operand.tmp 273), type := 4, pos := "laws.go:352", after := #[{ on := 18, ground := Ground.data }, { on := 15, ground := Ground.chain }], guard := none }) (v := ?_) rfl (by kernel_rfl) (by kernel_rfl) (by kernel_rfl) (fun _ _ _ h => h) (Or.inl ⟨by rfl, ?_⟩) (by assumption) ?_
                              rotate_left
                              · intro wy hSw; (try dsimp only at hSw); go_simp; (try with_reducible rfl)
                              try simp only [Act.put, List.setIfInBounds_toArray, List.set_cons_zero, List.set_cons_succ]
                              refine wpAnyH_take (i := 20) (oi := { dst := some 275, op := Op.load 26 (Operand.tmp 34), type := 26, pos := "laws.go:352", after := #[{ on := 19, ground := Ground.guard }], guard := some (19, true) }) (v := ?_) rfl (by kernel_rfl) (by kernel_rfl) (by kernel_rfl) (fun _ _ _ h => h) (Or.inl ⟨by rfl, ?_⟩) (by assumption) ?_
                              rotate_left
                              · intro wy hSw; (try dsimp only at hSw); go_simp; (try with_reducible rfl)
                              try simp only [Act.put, List.setIfInBounds_toArray, List.set_cons_zero, List.set_cons_succ]
                              refine wpAnyH_take (i := 21) (oi := { dst := some 276, op := Op.move (Operand.tmp 35), type := 3, pos := "laws.go:352", after := #[{ on := 19, ground := Ground.guard }], guard := some (19, true) }) (v := ?_) rfl (by kernel_rfl) (by kernel_rfl) (by kernel_rfl) (fun _ _ _ h => h) (Or.inl ⟨by rfl, ?_⟩) (by assumption) ?_
                              rotate_left
                              · intro wy hSw; (try dsimp only at hSw); go_simp; (try with_reducible rfl)
                              try simp only [Act.put, List.setIfInBounds_toArray, List.set_cons_zero, List.set_cons_succ]
                              refine wpAnyH_take (i := 23) (oi := { dst := some 278, op := Op.load 26 (Operand.tmp 34), type := 26, pos := "laws.go:352", after := #[{ on := 19, ground := Ground.guard }], guard := some (19, true) }) (v := ?_) rfl (by kernel_rfl) (by kernel_rfl) (by kernel_rfl) (fun _ _ _ h => h) (Or.inl ⟨by rfl, ?_⟩) (by assumption) ?_
                              rotate_left
                              · intro wy hSw; (try dsimp only at hSw); go_simp; (try with_reducible rfl)
                              try simp only [Act.put, List.setIfInBounds_toArray, List.set_cons_zero, List.set_cons_succ]
                              refine wpAnyH_take (i := 24) (oi := { dst := some 279, op := Op.move (Operand.tmp 35), type := 3, pos := "laws.go:352", after := #[{ on := 19, ground := Ground.guard }], guard := some (19, true) }) (v := ?_) rfl (by kernel_rfl) (by kernel_rfl) (by kernel_rfl) (fun _ _ _ h => h) (Or.inl ⟨by rfl, ?_⟩) (by assumption) ?_
                              rotate_left
                              · intro wy hSw; (try dsimp only at hSw); go_simp; (try with_reducible rfl)
                              try simp only [Act.put, List.setIfInBounds_toArray, List.set_cons_zero, List.set_cons_succ]
                              refine wpAnyH_ready (rs := [22]) (by kernel_rfl) (by simp) ?_
                              refine AllReadyH.cons (o := { dst := some 277, op := Op.call { callee := Callee.value (Operand.func 10), args := #[Operand.tmp 275, Operand.tmp 276], argTypes := #[26, 3] }, type := 4, pos := "laws.go:352", after := #[{ on := 20, ground := Ground.data }, { on := 21, ground := Ground.data }, { on := 19, ground := Ground.chain }, { on := 19, ground := Ground.guard }], guard := some (19, true) }) rfl (fun K4 hK4 => ?_) ?_
                              · go_simp
                                (refine (HFI.out _ ?_ ?_).mono ?_; exact Kc.fact (w0 := w) (cs := [(z4.heap.size, nq, .slice Aq xq.length cq), (z3.heap.size, nd, .slice Ae xd.length ce), (z2.heap.size, nd, .slice Ad xd.length cd), (z1.heap.size, nn, .slice An xn.length cn)]) (ls := [(Aq, xq), (Ae, xd), (Ad, xd), (An, xn)]) (by assumption); exact Kc.list (w0 := w) (cs := [(z4.heap.size, nq, .slice Aq xq.length cq), (z3.heap.size, nd, .slice Ae xd.length ce), (z2.heap.size, nd, .slice Ad xd.length cd), (z1.heap.size, nn, .slice An xn.length cn)]) (ls := [(Aq, xq), (Ae, xd), (Ad, xd), (An, xn)]) (by assumption) 0 rfl; rintro e wq ⟨rfl, hb⟩; have hkn : Kc T w wq [(z4.heap.size, nq, .slice Aq xq.length cq), (z3.heap.size, nd, .slice Ae xd.length ce), (z2.heap.size, nd, .slice Ad xd.length cd), (z1.heap.size, nn, .slice An xn.length cn)] [(Aq, xq), (Ae, xd), (Ad, xd), (An, xn)] := Kc.below (by assumption) hb; obtain ⟨c00, c01⟩ := hkn.cell 0 rfl; obtain ⟨c10, c11⟩ := hkn.cell 1 rfl; obtain ⟨c20, c21⟩ := hkn.cell 2 rfl; obtain ⟨c30, c31⟩ := hkn.cell 3 rfl; clear hb)
                                try go_wp2_with fail
                                refine hK4.out _ _ ?_ (fun hHeld => ?_)
                                · (try dsimp only); (refine ⟨?_, ?_, ?_, ?_, ?_, ?_, ?_, ?_, ?_⟩ <;> (first | assumption))
                                clear hK4 K4
                                try simp only [Act.put, List.setIfInBounds_toArray, List.set_cons_zero, List.set_cons_succ]
                                refine wpAnyH_ready (rs := [25]) (by kernel_rfl) (by simp) ?_
                                refine AllReadyH.cons (o := { dst := some 280, op := Op.call { callee := Callee.value (Operand.func 33), args := #[Operand.tmp 278, Operand.tmp 279], argTypes := #[26, 3] }, type := 4, pos := "laws.go:352", after := #[{ on := 23, ground := Ground.data }, { on := 24, ground := Ground.data }, { on := 22, ground := Ground.chain }, { on := 19, ground := Ground.guard }], guard := some (19, true) }) rfl (fun K5 hK5 => ?_) ?_
                                · go_simp
                                  (refine (HFS.out _ ?_).mono ?_; exact Kc.list (w0 := w) (cs := [(z4.heap.size, nq, .slice Aq xq.length cq), (z3.heap.size, nd, .slice Ae xd.length ce), (z2.heap.size, nd, .slice Ad xd.length cd), (z1.heap.size, nn, .slice An xn.length cn)]) (ls := [(Aq, xq), (Ae, xd), (Ad, xd), (An, xn)]) (by assumption) 0 rfl; rintro e wq ⟨rfl, hb⟩; have hkn : Kc T w wq [(z4.heap.size, nq, .slice Aq xq.length cq), (z3.heap.size, nd, .slice Ae xd.length ce), (z2.heap.size, nd, .slice Ad xd.length cd), (z1.heap.size, nn, .slice An xn.length cn)] [(Aq, xq), (Ae, xd), (Ad, xd), (An, xn)] := Kc.below (by assumption) hb; obtain ⟨c00, c01⟩ := hkn.cell 0 rfl; obtain ⟨c10, c11⟩ := hkn.cell 1 rfl; obtain ⟨c20, c21⟩ := hkn.cell 2 rfl; obtain ⟨c30, c31⟩ := hkn.cell 3 rfl; clear hb)
                                  try go_wp2_with fail
                                  refine hK5.out _ _ ?_ (fun hHeld => ?_)
                                  · (try dsimp only); (refine ⟨?_, ?_, ?_, ?_, ?_, ?_, ?_, ?_, ?_⟩ <;> (first | assumption))
                                  clear hK5 K5
                                  try simp only [Act.put, List.setIfInBounds_toArray, List.set_cons_zero, List.set_cons_succ]
                                  refine wpAnyH_take (i := 26) (oi := { dst := some 281, op := Op.binOp BinOp.eql 4 (Operand.tmp 277) (Operand.tmp 280) 4, type := 4, pos := "laws.go:352", after := #[{ on := 22, ground := Ground.data }, { on := 25, ground := Ground.data }, { on := 19, ground := Ground.guard }], guard := some (19, true) }) (v := ?_) rfl (by kernel_rfl) (by kernel_rfl) (by kernel_rfl) (fun _ _ _ h => h) (Or.inl ⟨by rfl, ?_⟩) (by assumption) ?_
                                  rotate_left
                                  · intro wy hSw; (try dsimp only at hSw); go_simp; (try with_reducible rfl)
                                  try simp only [Act.put, List.setIfInBounds_toArray, List.set_cons_zero, List.set_cons_succ]
                                  refine wpAnyH_take (i := 27) (oi := { dst := some 282, op := Op.pick (Operand.tmp 274) (Operand.tmp 281) (Operand.const (Value.bool false)), type := 4, pos := "laws.go:352", after := #[{ on := 19, ground := Ground.data }, { on := 26, ground := Ground.data }], guard := none }) (v := ?_) rfl (by kernel_rfl) (by kernel_rfl) (by kernel_rfl) (fun _ _ _ h => h) (Or.inl ⟨by rfl, ?_⟩) (by assumption) ?_
                                  rotate_left
                                  · intro wy hSw; (try dsimp only at hSw); go_simp; (try with_reducible rfl)
                                  try simp only [Act.put, List.setIfInBounds_toArray, List.set_cons_zero, List.set_cons_succ]
                                  refine wpAnyH_take (i := 28) (oi := { dst := some 2, op := Op.assign (Operand.tmp 282), type := 4, pos := "laws.go:352", after := #[{ on := 27, ground := Ground.data }, { on := 25, ground := Ground.chain }, { on := 0, ground := Ground.phase }, { on := 1, ground := Ground.phase }, { on := 2, ground := Ground.phase }, { on := 3, ground := Ground.phase }, { on := 4, ground := Ground.phase }, { on := 5, ground := Ground.phase }, { on := 6, ground := Ground.phase }, { on := 7, ground := Ground.phase }, { on := 8, ground := Ground.phase }, { on := 9, ground := Ground.phase }, { on := 10, ground := Ground.phase }, { on := 11, ground := Ground.phase }, { on := 12, ground := Ground.phase }, { on := 13, ground := Ground.phase }, { on := 14, ground := Ground.phase }, { on := 15, ground := Ground.phase }, { on := 16, ground := Ground.phase }, { on := 17, ground := Ground.phase }, { on := 18, ground := Ground.phase }, { on := 19, ground := Ground.phase }, { on := 20, ground := Ground.phase }, { on := 21, ground := Ground.phase }, { on := 22, ground := Ground.phase }, { on := 23, ground := Ground.phase }, { on := 24, ground := Ground.phase }, { on := 25, ground := Ground.phase }, { on := 26, ground := Ground.phase }, { on := 27, ground := Ground.phase }], guard := none }) (v := ?_) rfl (by kernel_rfl) (by kernel_rfl) (by kernel_rfl) (fun _ _ _ h => h) (Or.inl ⟨by rfl, ?_⟩) (by assumption) ?_
                                  rotate_left
                                  · intro wy hSw; (try dsimp only at hSw); go_simp; (try with_reducible rfl)
                                  try simp only [Act.put, List.setIfInBounds_toArray, List.set_cons_zero, List.set_cons_succ]
                                  refine wpAnyH_done (by kernel_rfl) ?_ _
                                  go_wp2_with fail
                                  go_ret
                                  exact ⟨rfl, Kc.base (w0 := w) (cs := [(z4.heap.size, nq, .slice Aq xq.length cq), (z3.heap.size, nd, .slice Ae xd.length ce), (z2.heap.size, nd, .slice Ad xd.length cd), (z1.heap.size, nn, .slice An xn.length cn)]) (ls := [(Aq, xq), (Ae, xd), (Ad, xd), (An, xn)]) (by assumption)⟩
                                exact AllReadyH.nil
                              exact AllReadyH.nil
                            exact AllReadyH.nil
                          exact AllReadyH.nil
                        exact AllReadyH.nil

set_option maxRecDepth 100000 in
set_option maxHeartbeats 4000000 in
theorem law_closures (T : World → Prop) (stay : ∀ W W', T W → Below W.heap.size W W' → T W') (a : Option Addr) (len cap : Nat) (w : World) (hm : len ≤ 9223372036854775807) (hy : Hid (Bytes w.heap.size w (.slice a len cap) len)) (HT : Hid (T w))
    (iClo : Hid (∀ (W : World) (n : Int) (A : Option Addr) (xs : List Int) (c : Nat) (s : Int), T W → Hid (Ints W W.heap.size A xs) → Calls Tryd.prog 8 #[.agg #[.int .i64 n, .slice A xs.length c], .int .i64 s] W (RetV W (.int .i64 (closureOf n xs s)))))
    (iFlat : Hid (∀ (W : World) (n : Int) (A : Option Addr) (xs : List Int) (c : Nat) (s : Int), T W → Hid (Ints W W.heap.size A xs) → Calls Tryd.prog 10 #[.agg #[.int .i64 n, .slice A xs.length c], .int .i64 s] W (RetV W (.bool (isFlat n xs s)))))
    (iFlats : Hid (∀ (W : World) (n : Int) (A : Option Addr) (xs : List Int) (c : Nat), T W → Hid (Ints W W.heap.size A xs) → Calls Tryd.prog 13 #[.agg #[.int .i64 n, .slice A xs.length c]] W (RetIB W (flatsOf n xs).1 (flatsOf n xs).2)))
    (iRest : Hid (∀ (W : World) (n : Int) (A : Option Addr) (xs : List Int) (c : Nat) (s : Int), T W → Hid (Ints W W.heap.size A xs) → Calls Tryd.prog 18 #[.agg #[.int .i64 n, .slice A xs.length c], .int .i64 s] W (RetFB W (restrictFn n xs s).1 (restrictFn n xs s).2.1 (restrictFn n xs s).2.2)))
    (iCont : Hid (∀ (W : World) (n : Int) (A : Option Addr) (xs : List Int) (c : Nat) (s : Int), T W → Hid (Ints W W.heap.size A xs) → Calls Tryd.prog 20 #[.agg #[.int .i64 n, .slice A xs.length c], .int .i64 s] W (RetFB W (contractFn n xs s).1 (contractFn n xs s).2.1 (contractFn n xs s).2.2)))
    (iOpp : Hid (∀ (W : World) (n : Int) (A : Option Addr) (xs : List Int) (c : Nat), T W → Hid (Ints W W.heap.size A xs) → Calls Tryd.prog 27 #[.agg #[.int .i64 n, .slice A xs.length c]] W (RetFB W (oppositeFn n xs).1 (oppositeFn n xs).2.1 (oppositeFn n xs).2.2)))
    (iDual : Hid (∀ (W : World) (n : Int) (A : Option Addr) (xs : List Int) (c : Nat) (D : Option Addr) (ws : List Int) (d : Nat), T W → Hid (Ints W W.heap.size A xs) → Hid (Ints W W.heap.size D ws) → Calls Tryd.prog 30 #[.agg #[.int .i64 n, .slice A xs.length c], .slice D ws.length d] W (RetFB W (dualFn n xs ws).1 (dualFn n xs ws).2.1 (dualFn n xs ws).2.2))) :
    Calls Tryd.prog 3 #[.slice a len cap] w (RetV w (.bool true)) := by
  by_cases hl : len ≤ 1048576
  · exact law_closures_in T stay a len cap w hl hy HT iClo iFlat iFlats iRest iCont iOpp iDual
  · have hbd : decide ((1048576 : Int) < (len : Int)) = true := by simp; omega
    have HW := Lib.hid (St.start w)
    go_enter Tryd.func3, Tryd.ntmps3
    go_wp2_with fail
    refine (big_any5 _ _ _ _ hm).mono ?_
    rw [hbd]
    rintro e w' ⟨rfl, rfl⟩
    go_wp2
    go_ret
    exact ⟨rfl, HW.out.base⟩

end Go.Proofs.YtfpoiiennlhphaaDoor.C
