/-
  The law: functions are added and scaled set by set, gains are differences, and texts are read back.
-/
import Derived.Test.YtielfnjkfceliaaGreatDoorKn
namespace Go.Proofs.YtielfnjkfceliaaGreatDoor.C
open Go.RowKit M K
set_option linter.unusedVariables false
set_option linter.unusedSimpArgs false

theorem val_bd (n : Int) (xs : List Int) (s : Int) : -9999 ≤ valueOf n xs s ∧ valueOf n xs s ≤ 1000 := by
  unfold valueOf
  split
  · rename_i hh
    obtain ⟨hf, hs⟩ := hh
    obtain ⟨h0, h5, hl, hv⟩ := isFn_yes hf
    obtain ⟨s0, s1⟩ := isSet_yes hs
    have := hv s.toNat (by omega)
    omega
  · omega

set_option maxRecDepth 100000 in
set_option maxHeartbeats 40000000 in
theorem law_fns (a : Option Addr) (len cap : Nat) (w : World) (hl : len ≤ 1048576) (hy : Hid (Bytes w.heap.size w (.slice a len cap) len)) (HT : Hid (Tab w)) (HBR : Hid (Brujn w)) (HML : Hid (MaxLenAt w)) :
    Calls Tryz.prog 3 #[.slice a len cap] w (RetV w (.bool true)) := by
  have hbd : decide ((1048576 : Int) < (len : Int)) = false := by simp; omega
  have HK0 := Lib.hid (show Kn w w [] [] from ⟨Below.refl _ _, (fun _ h => by cases h), (fun _ h => by cases h), HT.out, HBR.out, HML.out⟩)
  have HY := Lib.hid (fun (W : World) (h : Below w.heap.size w W) => bytes_at' hy h)
  go_enter Tryz.func3, Tryz.ntmps3
  go_wp2_with fail
  refine (big_any _ _ _ _ (by omega)).mono ?_
  rw [hbd]
  rintro e w' ⟨rfl, rfl⟩
  clear hbd
  go_wp2_with fail
  refine (add_got _ len _ hl (HY.out _ HK0.out.base)).mono ?_
  rintro e w1 ⟨_, nf, f, _, ng, g, rfl, ⟨Af, cf, rfl, hof, hlf⟩, ⟨Ag, cg, rfl, hog, hlg⟩, hb⟩
  have HK1 := Lib.hid ((((HK0.out.below hb).put hof.read).put hog.read).box nf (.slice Af f.length cf) 26 |>.box ng (.slice Ag g.length cg) 26)
  simp only [World.size_alloc] at HK1
  clear hof hog hb
  obtain ⟨hn, hx, hbb, hr⟩ : ∃ n x b, addFn nf f ng g = (n, x, b) := ⟨_, _, _, rfl⟩
  have HCI := Lib.hid (fun W (h1 : Ints W W.heap.size Af f) (h2 : Ints W W.heap.size Ag g) => addI_any nf Af f cf ng Ag g cg W (Lib.hid h1) (Lib.hid h2))
  have HCS := Lib.hid (fun W (h1 : Ints W W.heap.size Af f) (h2 : Ints W W.heap.size Ag g) => addS_any nf Af f cf ng Ag g cg W (Lib.hid h1) (Lib.hid h2))
  have HAL := Lib.hid (addFn_len nf f ng g)
  have HAS := Lib.hid (fun h1 h2 h3 => add_sub (n := nf) (m := ng) (xs := f) (ys := g) h1 h2 h3)
  rw [hr] at HCI HCS HAL HAS
  clear hr
  go_wp2_with fail
  refine (HCI.out _ (HK1.out.list 1 rfl) (HK1.out.list 0 rfl)).mono ?_
  rintro e w2 ⟨Ah, ch, rfl, ho, hb⟩
  have HK2 := Lib.hid (((HK1.out.below hb).put ho.read).box hn (.slice Ah hx.length ch) 26)
  obtain ⟨b00, b01⟩ := HK2.out.cell 2 rfl
  obtain ⟨b10, b11⟩ := HK2.out.cell 1 rfl
  clear ho hb HK1
  go_wp2_with fail
  refine (HCS.out _ (HK2.out.list 2 rfl) (HK2.out.list 1 rfl)).mono ?_
  rintro e w3 ⟨Ak, ck, rfl, ho, hb⟩
  have HK3 := Lib.hid (((HK2.out.below hb).put ho.read).box hn (.slice Ak hx.length ck) 26)
  clear ho hb HK2 b00 b01 b10 b11
  go_upto_region 6 with (fail)
  go_cut [81] (fun s81 wx => s81 = .bool false ∧ Kn w wx [(w3.heap.size, hn, .slice Ak hx.length ck), (w2.heap.size, hn, .slice Ah hx.length ch), (w1.heap.size + 1, ng, .slice Ag g.length cg), (w1.heap.size, nf, .slice Af f.length cf)] [(Ak, hx), (Ah, hx), (Ag, g), (Af, f)])
  case first =>
    obtain ⟨b00, b01⟩ := HK3.out.cell 0 rfl
    obtain ⟨b10, b11⟩ := HK3.out.cell 1 rfl
    have hle := HAL.out
    go_wp2_with fail
    refine (eqS_yes hn Ah hx ch Ak ck _ (Lib.hid (HK3.out.list 1 rfl)) (Lib.hid (HK3.out.list 0 rfl)) (by omega)).mono ?_
    rintro e wa ⟨rfl, hb⟩
    have HK4 := Lib.hid (HK3.out.below hb)
    clear hb b00 b01 b10 b11 hle
    have HFS := Lib.hid (fun W (h1 : Ints W W.heap.size Af f) => subS_any nf Af f cf W (Lib.hid h1))
    have HGS := Lib.hid (fun W (h1 : Ints W W.heap.size Ag g) => subS_any ng Ag g cg W (Lib.hid h1))
    have HKS := Lib.hid (fun W (h1 : Ints W W.heap.size Ak hx) => subI_any hn Ak hx ck W (Lib.hid h1))
    have hcell := HK4.out
    obtain ⟨b00, b01⟩ := hcell.cell 3 rfl
    clear hcell
    cases hbb
    · go_wp2_with fail
      go_meet
      exact ⟨rfl, HK4.out⟩
    · obtain ⟨sf, hsf⟩ : ∃ b, isSub nf f = b := ⟨_, rfl⟩
      obtain ⟨sg, hsg⟩ : ∃ b, isSub ng g = b := ⟨_, rfl⟩
      obtain ⟨sk, hsk⟩ : ∃ b, isSub hn hx = b := ⟨_, rfl⟩
      rw [hsf] at HFS HAS
      rw [hsg] at HGS HAS
      rw [hsk] at HKS HAS
      clear hsf hsg hsk
      go_wp2_with fail
      refine (HFS.out _ (HK4.out.list 3 rfl)).mono ?_
      rintro e wb ⟨rfl, hb⟩
      have HK5 := Lib.hid (HK4.out.below hb)
      clear hb b00 b01
      have hcell := HK5.out
      obtain ⟨b00, b01⟩ := hcell.cell 2 rfl
      clear hcell
      cases sf
      · go_wp2_with fail
        go_meet
        exact ⟨rfl, HK5.out⟩
      · go_wp2_with fail
        refine (HGS.out _ (HK5.out.list 2 rfl)).mono ?_
        rintro e wc ⟨rfl, hb⟩
        have HK6 := Lib.hid (HK5.out.below hb)
        clear hb b00 b01
        have hcell := HK6.out
        obtain ⟨b00, b01⟩ := hcell.cell 0 rfl
        clear hcell
        cases sg
        · go_wp2_with fail
          go_meet
          exact ⟨rfl, HK6.out⟩
        · obtain rfl : sk = true := by have h := HAS.out; simpa using h
          go_wp2_with fail
          refine (HKS.out _ (HK6.out.list 0 rfl)).mono ?_
          rintro e wd ⟨rfl, hb⟩
          have HK7 := Lib.hid (HK6.out.below hb)
          clear hb b00 b01
          go_wp2_with fail
          go_meet
          exact ⟨rfl, HK7.out⟩
  case rest =>
    obtain ⟨rfl, hK⟩ := hcut
    have HK4 := Lib.hid (hK.only (cs' := [(w1.heap.size, nf, .slice Af f.length cf)]) (ls' := [(Af, f)]) [3] [3] rfl rfl)
    have hcell := HK4.out
    obtain ⟨b00, b01⟩ := hcell.cell 0 rfl
    clear hK hcell HK3 HCI HCS HAL HAS
    have HF0 := Lib.hid (fun W (h1 : Ints W W.heap.size Af f) (h2 : Tab W) => fmtI_any nf Af f cf W (Lib.hid h1) (Lib.hid h2))
    have HF1 := Lib.hid (fun W (h1 : Ints W W.heap.size Af f) => fmtS_any nf Af f cf W (Lib.hid h1))
    have HPF := Lib.hid (fun h => parse_fmt (n := nf) (xs := f) h)
    have HPN := Lib.hid (show isFn nf f = false → fmtFn nf f = [] from fun h => by unfold fmtFn; rw [h]; rfl)
    have hsl := fmtFn_len nf f
    obtain ⟨s, hs⟩ : ∃ s, fmtFn nf f = s := ⟨_, rfl⟩
    rw [hs] at HF0 HF1 HPF HPN hsl
    obtain ⟨bi, hbi⟩ : ∃ b, isFn nf f = b := ⟨_, rfl⟩
    have HI0 := Lib.hid (fun W (h1 : Ints W W.heap.size Af f) => isFnI_any nf Af f cf W (Lib.hid h1))
    have HI1 := Lib.hid (fun W (h1 : Ints W W.heap.size Af f) => isFnS_any nf Af f cf W (Lib.hid h1))
    rw [hbi] at HI0 HI1 HPF HPN
    clear hs hbi
    go_wp2_with fail
    refine (HF0.out _ (HK4.out.list 0 rfl) HK4.out.tab).mono ?_
    rintro e w4 ⟨rfl, hb⟩
    have HK5 := Lib.hid (HK4.out.below hb)
    clear hb b00 b01 HF0
    have hsz : (⟨s.toArray⟩ : ByteArray).size = s.length := by show s.toArray.size = s.length; rw [List.size_toArray]
    have hdt : (⟨s.toArray⟩ : ByteArray).data.toList = s := by simp
    have HP0 := Lib.hid (fun W (h1 : Tab W) (h2 : MaxLenAt W) => psI_any ⟨s.toArray⟩ W (by rw [hsz]; omega) (Lib.hid h1) (Lib.hid h2))
    rw [hdt] at HP0
    obtain ⟨nr, r, br, hrr⟩ : ∃ n x b, parseFn s = (n, x, b) := ⟨_, _, _, rfl⟩
    have HRL := Lib.hid (parseFn_len s)
    rw [hrr] at HP0 HPF HRL
    have HRN := Lib.hid (show s = [] → (nr, r, br) = ((0 : Int), ([] : List Int), false) from fun h => by rw [← hrr, h]; exact parse_nil)
    have HSZ := Lib.hid hsz
    clear hrr hdt hsz
    generalize hSS : (⟨s.toArray⟩ : ByteArray) = S at HP0 HF1 HSZ ⊢
    clear hSS
    go_wp2_with fail
    refine (HP0.out _ HK5.out.tab HK5.out.maxLen).mono ?_
    rintro e w5 ⟨Ar, cr, rfl, ho, hb⟩
    have HK6 := Lib.hid (((HK5.out.below hb).put ho.read).box nr (.slice Ar r.length cr) 26)
    clear hb ho HP0 HK5
    go_upto_region 10 with (fail)
    go_cut [119] (fun s119 wx => s119 = .bool false ∧ Kn w wx [] [])
    case first =>
      generalize w5.alloc (.cells #[.int .i64 nr, .slice Ar r.length cr] 26) = w6 at HK6 ⊢
      cases bi
      · have h1 := HPN.out rfl
        have h2 := HRN.out h1
        injection h2 with h3 h4
        injection h4 with h4 h5
        subst h3 h4 h5
        clear h1
        have HEQ := Lib.hid (fun W (h1 : Ints W W.heap.size Ar []) (h2 : Ints W W.heap.size Af f) => eqS_any 0 Ar [] cr nf Af f cf W (Lib.hid h1) (Lib.hid h2) (by simp))
        have hk0 := HK6.out
        have hkd := hk0.drew
        obtain ⟨b10, b11⟩ := hk0.cell 0 rfl
        obtain ⟨b00, b01⟩ := hk0.cell 1 rfl
        have hSz := HSZ.out
        have hS1 : (S.size : Int) ≤ 200 := by omega
        have hS2 : decide ((S.size : Int) ≤ 200) = true := by simpa using hS1
        clear hSz
        as_aux_lemma =>
          refine wp_region_held_drew (S := (fun w' => w'.cell? ⟨w1.heap.size, 0, none⟩ = some (.int .i64 nf) ∧ w'.cell? ⟨w1.heap.size, 1, none⟩ = some (.slice Af f.length cf) ∧ Kn w w' [(w5.heap.size, 0, .slice Ar ([] : List Int).length cr), (w1.heap.size, nf, .slice Af f.length cf)] [(Ar, ([] : List Int)), (Af, f)])) (by kernel_rfl) ?_ (fun hHeld => ?_)
          · refine ⟨?_, ?_, ?_⟩ <;> (first | assumption)
          refine wpAnyH_take (i := 0) (oi := { dst := some 89, op := Op.move (Operand.tmp 9), type := 9, pos := "laws.go:248", after := #[], guard := none }) (v := ?_) rfl (by kernel_rfl) (by kernel_rfl) (by kernel_rfl) (fun _ _ _ h => h) (Or.inl ⟨by rfl, ?_⟩) (by assumption) ?_
          rotate_left
          · intro wy hSw; (try dsimp only at hSw); go_simp; (try with_reducible rfl)
          try simp only [Act.put, List.setIfInBounds_toArray, List.set_cons_zero, List.set_cons_succ]
          refine wpAnyH_take (i := 1) (oi := { dst := some 90, op := Op.load 26 (Operand.tmp 3), type := 26, pos := "laws.go:248", after := #[], guard := none }) (v := ?_) rfl (by kernel_rfl) (by kernel_rfl) (by kernel_rfl) (fun _ _ _ h => h) (Or.inl ⟨by rfl, ?_⟩) (by assumption) ?_
          rotate_left
          · intro wy hSw; (try dsimp only at hSw); go_simp; (try with_reducible rfl)
          try simp only [Act.put, List.setIfInBounds_toArray, List.set_cons_zero, List.set_cons_succ]
          refine wpAnyH_ready (rs := [2]) (by kernel_rfl) (by simp) ?_
          refine AllReadyH.cons (o := { dst := some 91, op := Op.call { callee := Callee.value (Operand.func 13), args := #[Operand.tmp 90], argTypes := #[26] }, type := 9, pos := "laws.go:248", after := #[{ on := 1, ground := Ground.data }], guard := none }) rfl (fun K1 hK1 => ?_) ?_
          · go_simp
            (refine (HF1.out _ ?_).mono ?_; exact Kn.list (w0 := w) (cs := [(w5.heap.size, 0, .slice Ar ([] : List Int).length cr), (w1.heap.size, nf, .slice Af f.length cf)]) (ls := [(Ar, ([] : List Int)), (Af, f)]) (by assumption) 1 rfl; rintro e wq ⟨rfl, hb⟩; have hkn : Kn w wq [(w5.heap.size, 0, .slice Ar ([] : List Int).length cr), (w1.heap.size, nf, .slice Af f.length cf)] [(Ar, ([] : List Int)), (Af, f)] := Kn.below (by assumption) hb; obtain ⟨c00, c01⟩ := hkn.cell 1 rfl; obtain ⟨c10, c11⟩ := hkn.cell 0 rfl; clear hb)
            try go_wp2_with fail
            refine hK1.out _ _ ?_ (fun hHeld => ?_)
            · (try dsimp only); (refine ⟨?_, ?_, ?_⟩ <;> (first | assumption))
            clear hK1 K1
            try simp only [Act.put, List.setIfInBounds_toArray, List.set_cons_zero, List.set_cons_succ]
            refine wpAnyH_take (i := 3) (oi := { dst := some 92, op := Op.binOp BinOp.neq 9 (Operand.tmp 89) (Operand.tmp 91) 9, type := 4, pos := "laws.go:248", after := #[{ on := 0, ground := Ground.data }, { on := 2, ground := Ground.data }], guard := none }) (v := ?_) rfl (by kernel_rfl) (by kernel_rfl) (by kernel_rfl) (fun _ _ _ h => h) (Or.inl ⟨by rfl, ?_⟩) (by assumption) ?_
            rotate_left
            · intro wy hSw; (try dsimp only at hSw); go_simp; (try with_reducible rfl)
            try simp only [Act.put, List.setIfInBounds_toArray, List.set_cons_zero, List.set_cons_succ]
            refine wpAnyH_take (i := 4) (oi := { dst := some 93, op := Op.move (Operand.tmp 92), type := 4, pos := "laws.go:248", after := #[{ on := 3, ground := Ground.data }, { on := 2, ground := Ground.chain }], guard := none }) (v := ?_) rfl (by kernel_rfl) (by kernel_rfl) (by kernel_rfl) (fun _ _ _ h => h) (Or.inl ⟨by rfl, ?_⟩) (by assumption) ?_
            rotate_left
            · intro wy hSw; (try dsimp only at hSw); go_simp; (try with_reducible rfl)
            try simp only [Act.put, List.setIfInBounds_toArray, List.set_cons_zero, List.set_cons_succ]
            refine wpAnyH_take (i := 5) (oi := { dst := some 94, op := Op.load 26 (Operand.tmp 3), type := 26, pos := "laws.go:248", after := #[{ on := 4, ground := Ground.guard }], guard := some (4, false) }) (v := ?_) rfl (by kernel_rfl) (by kernel_rfl) (by kernel_rfl) (fun _ _ _ h => h) (Or.inl ⟨by rfl, ?_⟩) (by assumption) ?_
            rotate_left
            · intro wy hSw; (try dsimp only at hSw); go_simp; (try with_reducible rfl)
            try simp only [Act.put, List.setIfInBounds_toArray, List.set_cons_zero, List.set_cons_succ]
            refine wpAnyH_take (i := 7) (oi := { dst := some 96, op := Op.load 26 (Operand.tmp 3), type := 26, pos := "laws.go:248", after := #[{ on := 4, ground := Ground.guard }], guard := some (4, false) }) (v := ?_) rfl (by kernel_rfl) (by kernel_rfl) (by kernel_rfl) (fun _ _ _ h => h) (Or.inl ⟨by rfl, ?_⟩) (by assumption) ?_
            rotate_left
            · intro wy hSw; (try dsimp only at hSw); go_simp; (try with_reducible rfl)
            try simp only [Act.put, List.setIfInBounds_toArray, List.set_cons_zero, List.set_cons_succ]
            refine wpAnyH_ready (rs := [6]) (by kernel_rfl) (by simp) ?_
            refine AllReadyH.cons (o := { dst := some 95, op := Op.call { callee := Callee.value (Operand.func 14), args := #[Operand.tmp 94], argTypes := #[26] }, type := 4, pos := "laws.go:248", after := #[{ on := 5, ground := Ground.data }, { on := 4, ground := Ground.chain }, { on := 4, ground := Ground.guard }], guard := some (4, false) }) rfl (fun K2 hK2 => ?_) ?_
            · go_simp
              (refine (HI0.out _ ?_).mono ?_; exact Kn.list (w0 := w) (cs := [(w5.heap.size, 0, .slice Ar ([] : List Int).length cr), (w1.heap.size, nf, .slice Af f.length cf)]) (ls := [(Ar, ([] : List Int)), (Af, f)]) (by assumption) 1 rfl; rintro e wq ⟨rfl, hb⟩; have hkn : Kn w wq [(w5.heap.size, 0, .slice Ar ([] : List Int).length cr), (w1.heap.size, nf, .slice Af f.length cf)] [(Ar, ([] : List Int)), (Af, f)] := Kn.below (by assumption) hb; obtain ⟨c00, c01⟩ := hkn.cell 1 rfl; obtain ⟨c10, c11⟩ := hkn.cell 0 rfl; clear hb)
              try go_wp2_with fail
              refine hK2.out _ _ ?_ (fun hHeld => ?_)
              · (try dsimp only); (refine ⟨?_, ?_, ?_⟩ <;> (first | assumption))
              clear hK2 K2
              try simp only [Act.put, List.setIfInBounds_toArray, List.set_cons_zero, List.set_cons_succ]
              refine wpAnyH_ready (rs := [8]) (by kernel_rfl) (by simp) ?_
              refine AllReadyH.cons (o := { dst := some 97, op := Op.call { callee := Callee.value (Operand.func 15), args := #[Operand.tmp 96], argTypes := #[26] }, type := 4, pos := "laws.go:248", after := #[{ on := 7, ground := Ground.data }, { on := 6, ground := Ground.chain }, { on := 4, ground := Ground.guard }], guard := some (4, false) }) rfl (fun K3 hK3 => ?_) ?_
              · go_simp
                (refine (HI1.out _ ?_).mono ?_; exact Kn.list (w0 := w) (cs := [(w5.heap.size, 0, .slice Ar ([] : List Int).length cr), (w1.heap.size, nf, .slice Af f.length cf)]) (ls := [(Ar, ([] : List Int)), (Af, f)]) (by assumption) 1 rfl; rintro e wq ⟨rfl, hb⟩; have hkn : Kn w wq [(w5.heap.size, 0, .slice Ar ([] : List Int).length cr), (w1.heap.size, nf, .slice Af f.length cf)] [(Ar, ([] : List Int)), (Af, f)] := Kn.below (by assumption) hb; obtain ⟨c00, c01⟩ := hkn.cell 1 rfl; obtain ⟨c10, c11⟩ := hkn.cell 0 rfl; clear hb)
                try go_wp2_with fail
                refine hK3.out _ _ ?_ (fun hHeld => ?_)
                · (try dsimp only); (refine ⟨?_, ?_, ?_⟩ <;> (first | assumption))
                clear hK3 K3
                try simp only [Act.put, List.setIfInBounds_toArray, List.set_cons_zero, List.set_cons_succ]
                refine wpAnyH_take (i := 9) (oi := { dst := some 98, op := Op.binOp BinOp.neq 4 (Operand.tmp 95) (Operand.tmp 97) 4, type := 4, pos := "laws.go:248", after := #[{ on := 6, ground := Ground.data }, { on := 8, ground := Ground.data }, { on := 4, ground := Ground.guard }], guard := some (4, false) }) (v := ?_) rfl (by kernel_rfl) (by kernel_rfl) (by kernel_rfl) (fun _ _ _ h => h) (Or.inl ⟨by rfl, ?_⟩) (by assumption) ?_
                rotate_left
                · intro wy hSw; (try dsimp only at hSw); go_simp; (try with_reducible rfl)
                try simp only [Act.put, List.setIfInBounds_toArray, List.set_cons_zero, List.set_cons_succ]
                refine wpAnyH_take (i := 10) (oi := { dst := some 99, op := Op.pick (Operand.tmp 93) (Operand.const (Value.bool true)) (Operand.tmp 98), type := 4, pos := "laws.go:248", after := #[{ on := 4, ground := Ground.data }, { on := 9, ground := Ground.data }], guard := none }) (v := ?_) rfl (by kernel_rfl) (by kernel_rfl) (by kernel_rfl) (fun _ _ _ h => h) (Or.inl ⟨by rfl, ?_⟩) (by assumption) ?_
                rotate_left
                · intro wy hSw; (try dsimp only at hSw); go_simp; (try with_reducible rfl)
                try simp only [Act.put, List.setIfInBounds_toArray, List.set_cons_zero, List.set_cons_succ]
                refine wpAnyH_take (i := 11) (oi := { dst := some 100, op := Op.move (Operand.tmp 99), type := 4, pos := "laws.go:248", after := #[{ on := 10, ground := Ground.data }, { on := 8, ground := Ground.chain }], guard := none }) (v := ?_) rfl (by kernel_rfl) (by kernel_rfl) (by kernel_rfl) (fun _ _ _ h => h) (Or.inl ⟨by rfl, ?_⟩) (by assumption) ?_
                rotate_left
                · intro wy hSw; (try dsimp only at hSw); go_simp; (try with_reducible rfl)
                try simp only [Act.put, List.setIfInBounds_toArray, List.set_cons_zero, List.set_cons_succ]
                refine wpAnyH_take (i := 12) (oi := { dst := some 101, op := Op.move (Operand.tmp 9), type := 9, pos := "laws.go:248", after := #[{ on := 11, ground := Ground.guard }], guard := some (11, false) }) (v := ?_) rfl (by kernel_rfl) (by kernel_rfl) (by kernel_rfl) (fun _ _ _ h => h) (Or.inl ⟨by rfl, ?_⟩) (by assumption) ?_
                rotate_left
                · intro wy hSw; (try dsimp only at hSw); go_simp; (try with_reducible rfl)
                try simp only [Act.put, List.setIfInBounds_toArray, List.set_cons_zero, List.set_cons_succ]
                refine wpAnyH_take (i := 13) (oi := { dst := some 102, op := Op.call { callee := Callee.builtin Builtin.len, args := #[Operand.tmp 101], argTypes := #[9] }, type := 3, pos := "laws.go:248", after := #[{ on := 12, ground := Ground.data }, { on := 11, ground := Ground.guard }], guard := some (11, false) }) (v := ?_) rfl (by kernel_rfl) (by kernel_rfl) (by kernel_rfl) (fun _ _ _ h => h) (Or.inl ⟨by rfl, ?_⟩) (by assumption) ?_
                rotate_left
                · intro wy hSw; (try dsimp only at hSw); go_simp; (try with_reducible rfl)
                try simp only [Act.put, List.setIfInBounds_toArray, List.set_cons_zero, List.set_cons_succ]
                refine wpAnyH_take (i := 14) (oi := { dst := some 103, op := Op.binOp BinOp.leq 3 (Operand.tmp 102) (Operand.const (Value.int IntKind.i64 200)) 3, type := 4, pos := "laws.go:248", after := #[{ on := 13, ground := Ground.data }, { on := 11, ground := Ground.guard }], guard := some (11, false) }) (v := ?_) rfl (by kernel_rfl) (by kernel_rfl) (by kernel_rfl) (fun _ _ _ h => h) (Or.inl ⟨by rfl, ?_⟩) (by assumption) ?_
                rotate_left
                · intro wy hSw; (try dsimp only at hSw); go_simp; (try with_reducible rfl)
                try simp only [Act.put, List.setIfInBounds_toArray, List.set_cons_zero, List.set_cons_succ]
                refine wpAnyH_take (i := 15) (oi := { dst := some 104, op := Op.move (Operand.tmp 103), type := 4, pos := "laws.go:248", after := #[{ on := 14, ground := Ground.data }, { on := 11, ground := Ground.chain }, { on := 11, ground := Ground.guard }], guard := some (11, false) }) (v := ?_) rfl (by kernel_rfl) (by kernel_rfl) (by kernel_rfl) (fun _ _ _ h => h) (Or.inl ⟨by rfl, ?_⟩) (by assumption) ?_
                rotate_left
                · intro wy hSw; (try dsimp only at hSw); go_simp; (try with_reducible rfl)
                try simp only [Act.put, List.setIfInBounds_toArray, List.set_cons_zero, List.set_cons_succ]
                refine wpAnyH_take (i := 16) (oi := { dst := some 105, op := Op.move (Operand.tmp 11), type := 4, pos := "laws.go:248", after := #[{ on := 15, ground := Ground.guard }], guard := some (15, true) }) (v := ?_) rfl (by kernel_rfl) (by kernel_rfl) (by kernel_rfl) (fun _ _ _ h => h) (Or.inl ⟨by rfl, ?_⟩) (by assumption) ?_
                rotate_left
                · intro wy hSw; (try dsimp only at hSw); go_simp; (try with_reducible rfl)
                try simp only [Act.put, List.setIfInBounds_toArray, List.set_cons_zero, List.set_cons_succ]
                refine wpAnyH_take (i := 17) (oi := { dst := some 106, op := Op.load 26 (Operand.tmp 3), type := 26, pos := "laws.go:248", after := #[{ on := 15, ground := Ground.guard }], guard := some (15, true) }) (v := ?_) rfl (by kernel_rfl) (by kernel_rfl) (by kernel_rfl) (fun _ _ _ h => h) (Or.inl ⟨by rfl, ?_⟩) (by assumption) ?_
                rotate_left
                · intro wy hSw; (try dsimp only at hSw); go_simp; (try with_reducible rfl)
                try simp only [Act.put, List.setIfInBounds_toArray, List.set_cons_zero, List.set_cons_succ]
                refine wpAnyH_ready (rs := [18]) (by kernel_rfl) (by simp) ?_
                refine AllReadyH.cons (o := { dst := some 107, op := Op.call { callee := Callee.value (Operand.func 15), args := #[Operand.tmp 106], argTypes := #[26] }, type := 4, pos := "laws.go:248", after := #[{ on := 17, ground := Ground.data }, { on := 15, ground := Ground.chain }, { on := 15, ground := Ground.guard }], guard := some (15, true) }) rfl (fun K4 hK4 => ?_) ?_
                · go_simp
                  (refine (HI1.out _ ?_).mono ?_; exact Kn.list (w0 := w) (cs := [(w5.heap.size, 0, .slice Ar ([] : List Int).length cr), (w1.heap.size, nf, .slice Af f.length cf)]) (ls := [(Ar, ([] : List Int)), (Af, f)]) (by assumption) 1 rfl; rintro e wq ⟨rfl, hb⟩; have hkn : Kn w wq [(w5.heap.size, 0, .slice Ar ([] : List Int).length cr), (w1.heap.size, nf, .slice Af f.length cf)] [(Ar, ([] : List Int)), (Af, f)] := Kn.below (by assumption) hb; obtain ⟨c00, c01⟩ := hkn.cell 1 rfl; obtain ⟨c10, c11⟩ := hkn.cell 0 rfl; clear hb)
                  try go_wp2_with fail
                  refine hK4.out _ _ ?_ (fun hHeld => ?_)
                  · (try dsimp only); (refine ⟨?_, ?_, ?_⟩ <;> (first | assumption))
                  clear hK4 K4
                  try simp only [Act.put, List.setIfInBounds_toArray, List.set_cons_zero, List.set_cons_succ]
                  refine wpAnyH_take (i := 19) (oi := { dst := some 108, op := Op.binOp BinOp.neq 4 (Operand.tmp 105) (Operand.tmp 107) 4, type := 4, pos := "laws.go:248", after := #[{ on := 16, ground := Ground.data }, { on := 18, ground := Ground.data }, { on := 15, ground := Ground.guard }], guard := some (15, true) }) (v := ?_) rfl (by kernel_rfl) (by kernel_rfl) (by kernel_rfl) (fun _ _ _ h => h) (Or.inl ⟨by rfl, ?_⟩) (by assumption) ?_
                  rotate_left
                  · intro wy hSw; (try dsimp only at hSw); go_simp; (try with_reducible rfl)
                  try simp only [Act.put, List.setIfInBounds_toArray, List.set_cons_zero, List.set_cons_succ]
                  refine wpAnyH_take (i := 20) (oi := { dst := some 109, op := Op.move (Operand.tmp 108), type := 4, pos := "laws.go:248", after := #[{ on := 19, ground := Ground.data }, { on := 18, ground := Ground.chain }, { on := 15, ground := Ground.guard }], guard := some (15, true) }) (v := ?_) rfl (by kernel_rfl) (by kernel_rfl) (by kernel_rfl) (fun _ _ _ h => h) (Or.inl ⟨by rfl, ?_⟩) (by assumption) ?_
                  rotate_left
                  · intro wy hSw; (try dsimp only at hSw); go_simp; (try with_reducible rfl)
                  try simp only [Act.put, List.setIfInBounds_toArray, List.set_cons_zero, List.set_cons_succ]
                  refine wpAnyH_take (i := 21) (oi := { dst := some 110, op := Op.move (Operand.tmp 11), type := 4, pos := "laws.go:248", after := #[{ on := 20, ground := Ground.guard }], guard := some (20, false) }) (v := ?_) rfl (by kernel_rfl) (by kernel_rfl) (by kernel_rfl) (fun _ _ _ h => h) (Or.inl ⟨by rfl, ?_⟩) (by assumption) ?_
                  rotate_left
                  · intro wy hSw; (try dsimp only at hSw); go_simp; (try with_reducible rfl)
                  try simp only [Act.put, List.setIfInBounds_toArray, List.set_cons_zero, List.set_cons_succ]
                  refine wpAnyH_take (i := 22) (oi := { dst := some 111, op := Op.move (Operand.tmp 110), type := 4, pos := "laws.go:248", after := #[{ on := 21, ground := Ground.data }, { on := 20, ground := Ground.chain }, { on := 20, ground := Ground.guard }], guard := some (20, false) }) (v := ?_) rfl (by kernel_rfl) (by kernel_rfl) (by kernel_rfl) (fun _ _ _ h => h) (Or.inl ⟨by rfl, ?_⟩) (by assumption) ?_
                  rotate_left
                  · intro wy hSw; (try dsimp only at hSw); go_simp; (try with_reducible rfl)
                  try simp only [Act.put, List.setIfInBounds_toArray, List.set_cons_zero, List.set_cons_succ]
                  refine wpAnyH_take (i := 23) (oi := { dst := some 112, op := Op.load 26 (Operand.tmp 10), type := 26, pos := "laws.go:248", after := #[{ on := 22, ground := Ground.guard }], guard := some (22, true) }) (v := undef) rfl (by kernel_rfl) (by kernel_rfl) (by kernel_rfl) (fun _ _ _ h => h) (Or.inr ⟨by rfl, rfl⟩) (by assumption) ?_
                  try simp only [Act.put, List.setIfInBounds_toArray, List.set_cons_zero, List.set_cons_succ]
                  refine wpAnyH_take (i := 24) (oi := { dst := some 113, op := Op.load 26 (Operand.tmp 3), type := 26, pos := "laws.go:248", after := #[{ on := 22, ground := Ground.guard }], guard := some (22, true) }) (v := undef) rfl (by kernel_rfl) (by kernel_rfl) (by kernel_rfl) (fun _ _ _ h => h) (Or.inr ⟨by rfl, rfl⟩) (by assumption) ?_
                  try simp only [Act.put, List.setIfInBounds_toArray, List.set_cons_zero, List.set_cons_succ]
                  refine wpAnyH_ready (rs := [25]) (by kernel_rfl) (by simp) ?_
                  refine AllReadyH.cons (o := { dst := some 114, op := Op.call { callee := Callee.value (Operand.func 8), args := #[Operand.tmp 112, Operand.tmp 113], argTypes := #[26, 26] }, type := 4, pos := "laws.go:248", after := #[{ on := 23, ground := Ground.data }, { on := 24, ground := Ground.data }, { on := 22, ground := Ground.chain }, { on := 22, ground := Ground.guard }], guard := some (22, true) }) rfl (fun K5 hK5 => ?_) ?_
                  · go_simp
                    refine hK5.out _ _ ?_ (fun hHeld => ?_)
                    · (try dsimp only); (assumption)
                    clear hK5 K5
                    try simp only [Act.put, List.setIfInBounds_toArray, List.set_cons_zero, List.set_cons_succ]
                    refine wpAnyH_take (i := 26) (oi := { dst := some 115, op := Op.unOp UnOp.not 4 (Operand.tmp 114), type := 4, pos := "laws.go:248", after := #[{ on := 25, ground := Ground.data }, { on := 22, ground := Ground.guard }], guard := some (22, true) }) (v := undef) rfl (by kernel_rfl) (by kernel_rfl) (by kernel_rfl) (fun _ _ _ h => h) (Or.inr ⟨by rfl, rfl⟩) (by assumption) ?_
                    try simp only [Act.put, List.setIfInBounds_toArray, List.set_cons_zero, List.set_cons_succ]
                    refine wpAnyH_take (i := 27) (oi := { dst := some 116, op := Op.pick (Operand.tmp 111) (Operand.tmp 115) (Operand.const (Value.bool false)), type := 4, pos := "laws.go:248", after := #[{ on := 22, ground := Ground.data }, { on := 26, ground := Ground.data }, { on := 20, ground := Ground.guard }], guard := some (20, false) }) (v := ?_) rfl (by kernel_rfl) (by kernel_rfl) (by kernel_rfl) (fun _ _ _ h => h) (Or.inl ⟨by rfl, ?_⟩) (by assumption) ?_
                    rotate_left
                    · intro wy hSw; (try dsimp only at hSw); go_simp; (try with_reducible rfl)
                    try simp only [Act.put, List.setIfInBounds_toArray, List.set_cons_zero, List.set_cons_succ]
                    refine wpAnyH_take (i := 28) (oi := { dst := some 117, op := Op.pick (Operand.tmp 109) (Operand.const (Value.bool true)) (Operand.tmp 116), type := 4, pos := "laws.go:248", after := #[{ on := 20, ground := Ground.data }, { on := 27, ground := Ground.data }, { on := 15, ground := Ground.guard }], guard := some (15, true) }) (v := ?_) rfl (by kernel_rfl) (by kernel_rfl) (by kernel_rfl) (fun _ _ _ h => h) (Or.inl ⟨by rfl, ?_⟩) (by assumption) ?_
                    rotate_left
                    · intro wy hSw; (try dsimp only at hSw); go_simp; (try with_reducible rfl)
                    try simp only [Act.put, List.setIfInBounds_toArray, List.set_cons_zero, List.set_cons_succ]
                    refine wpAnyH_take (i := 29) (oi := { dst := some 118, op := Op.pick (Operand.tmp 104) (Operand.tmp 117) (Operand.const (Value.bool false)), type := 4, pos := "laws.go:248", after := #[{ on := 15, ground := Ground.data }, { on := 28, ground := Ground.data }, { on := 11, ground := Ground.guard }], guard := some (11, false) }) (v := ?_) rfl (by kernel_rfl) (by kernel_rfl) (by kernel_rfl) (fun _ _ _ h => h) (Or.inl ⟨by rfl, ?_⟩) (by assumption) ?_
                    rotate_left
                    · intro wy hSw; (try dsimp only at hSw); go_simp; (try with_reducible rfl)
                    try simp only [Act.put, List.setIfInBounds_toArray, List.set_cons_zero, List.set_cons_succ]
                    refine wpAnyH_take (i := 30) (oi := { dst := some 119, op := Op.pick (Operand.tmp 100) (Operand.const (Value.bool true)) (Operand.tmp 118), type := 4, pos := "laws.go:248", after := #[{ on := 11, ground := Ground.data }, { on := 29, ground := Ground.data }], guard := none }) (v := ?_) rfl (by kernel_rfl) (by kernel_rfl) (by kernel_rfl) (fun _ _ _ h => h) (Or.inl ⟨by rfl, ?_⟩) (by assumption) ?_
                    rotate_left
                    · intro wy hSw; (try dsimp only at hSw); go_simp; (try with_reducible rfl)
                    try simp only [Act.put, List.setIfInBounds_toArray, List.set_cons_zero, List.set_cons_succ]
                    refine wpAnyH_done (by kernel_rfl) ?_ _
                    go_wp2_with fail
                    go_meet
                    exact ⟨rfl, (Kn.only (w0 := w) (cs := [(w5.heap.size, 0, .slice Ar ([] : List Int).length cr), (w1.heap.size, nf, .slice Af f.length cf)]) (ls := [(Ar, ([] : List Int)), (Af, f)]) (by assumption) [] [] rfl rfl)⟩
                  exact AllReadyH.nil
                exact AllReadyH.nil
              exact AllReadyH.nil
            exact AllReadyH.nil
          exact AllReadyH.nil
      · have h2 := HPF.out rfl
        injection h2 with h3 h4
        injection h4 with h4 h5
        subst h3 h4 h5
        have hle := HRL.out
        have HEQ := Lib.hid (fun W (h1 : Ints W W.heap.size Ar r) (h2 : Ints W W.heap.size Af r) => eqS_yes nr Ar r cr Af cf W (Lib.hid h1) (Lib.hid h2) (by omega))
        have hk0 := HK6.out
        have hkd := hk0.drew
        obtain ⟨b10, b11⟩ := hk0.cell 0 rfl
        obtain ⟨b00, b01⟩ := hk0.cell 1 rfl
        have hSz := HSZ.out
        have hS1 : (S.size : Int) ≤ 200 := by omega
        have hS2 : decide ((S.size : Int) ≤ 200) = true := by simpa using hS1
        clear hSz
        as_aux_lemma =>
          refine wp_region_held_drew (S := (fun w' => w'.cell? ⟨w1.heap.size, 0, none⟩ = some (.int .i64 nr) ∧ w'.cell? ⟨w1.heap.size, 1, none⟩ = some (.slice Af r.length cf) ∧ w'.cell? ⟨w5.heap.size, 0, none⟩ = some (.int .i64 nr) ∧ w'.cell? ⟨w5.heap.size, 1, none⟩ = some (.slice Ar r.length cr) ∧ Kn w w' [(w5.heap.size, nr, .slice Ar r.length cr), (w1.heap.size, nr, .slice Af r.length cf)] [(Ar, r), (Af, r)])) (by kernel_rfl) ?_ (fun hHeld => ?_)
          · refine ⟨?_, ?_, ?_, ?_, ?_⟩ <;> (first | assumption)
          refine wpAnyH_take (i := 0) (oi := { dst := some 89, op := Op.move (Operand.tmp 9), type := 9, pos := "laws.go:248", after := #[], guard := none }) (v := ?_) rfl (by kernel_rfl) (by kernel_rfl) (by kernel_rfl) (fun _ _ _ h => h) (Or.inl ⟨by rfl, ?_⟩) (by assumption) ?_
          rotate_left
          · intro wy hSw; (try dsimp only at hSw); go_simp; (try with_reducible rfl)
          try simp only [Act.put, List.setIfInBounds_toArray, List.set_cons_zero, List.set_cons_succ]
          refine wpAnyH_take (i := 1) (oi := { dst := some 90, op := Op.load 26 (Operand.tmp 3), type := 26, pos := "laws.go:248", after := #[], guard := none }) (v := ?_) rfl (by kernel_rfl) (by kernel_rfl) (by kernel_rfl) (fun _ _ _ h => h) (Or.inl ⟨by rfl, ?_⟩) (by assumption) ?_
          rotate_left
          · intro wy hSw; (try dsimp only at hSw); go_simp; (try with_reducible rfl)
          try simp only [Act.put, List.setIfInBounds_toArray, List.set_cons_zero, List.set_cons_succ]
          refine wpAnyH_ready (rs := [2]) (by kernel_rfl) (by simp) ?_
          refine AllReadyH.cons (o := { dst := some 91, op := Op.call { callee := Callee.value (Operand.func 13), args := #[Operand.tmp 90], argTypes := #[26] }, type := 9, pos := "laws.go:248", after := #[{ on := 1, ground := Ground.data }], guard := none }) rfl (fun K1 hK1 => ?_) ?_
          · go_simp
            (refine (HF1.out _ ?_).mono ?_; exact Kn.list (w0 := w) (cs := [(w5.heap.size, nr, .slice Ar r.length cr), (w1.heap.size, nr, .slice Af r.length cf)]) (ls := [(Ar, r), (Af, r)]) (by assumption) 1 rfl; rintro e wq ⟨rfl, hb⟩; have hkn : Kn w wq [(w5.heap.size, nr, .slice Ar r.length cr), (w1.heap.size, nr, .slice Af r.length cf)] [(Ar, r), (Af, r)] := Kn.below (by assumption) hb; obtain ⟨c00, c01⟩ := hkn.cell 1 rfl; obtain ⟨c10, c11⟩ := hkn.cell 0 rfl; clear hb)
            try go_wp2_with fail
            refine hK1.out _ _ ?_ (fun hHeld => ?_)
            · (try dsimp only); (refine ⟨?_, ?_, ?_, ?_, ?_⟩ <;> (first | assumption))
            clear hK1 K1
            try simp only [Act.put, List.setIfInBounds_toArray, List.set_cons_zero, List.set_cons_succ]
            refine wpAnyH_take (i := 3) (oi := { dst := some 92, op := Op.binOp BinOp.neq 9 (Operand.tmp 89) (Operand.tmp 91) 9, type := 4, pos := "laws.go:248", after := #[{ on := 0, ground := Ground.data }, { on := 2, ground := Ground.data }], guard := none }) (v := ?_) rfl (by kernel_rfl) (by kernel_rfl) (by kernel_rfl) (fun _ _ _ h => h) (Or.inl ⟨by rfl, ?_⟩) (by assumption) ?_
            rotate_left
            · intro wy hSw; (try dsimp only at hSw); go_simp; (try with_reducible rfl)
            try simp only [Act.put, List.setIfInBounds_toArray, List.set_cons_zero, List.set_cons_succ]
            refine wpAnyH_take (i := 4) (oi := { dst := some 93, op := Op.move (Operand.tmp 92), type := 4, pos := "laws.go:248", after := #[{ on := 3, ground := Ground.data }, { on := 2, ground := Ground.chain }], guard := none }) (v := ?_) rfl (by kernel_rfl) (by kernel_rfl) (by kernel_rfl) (fun _ _ _ h => h) (Or.inl ⟨by rfl, ?_⟩) (by assumption) ?_
            rotate_left
            · intro wy hSw; (try dsimp only at hSw); go_simp; (try with_reducible rfl)
            try simp only [Act.put, List.setIfInBounds_toArray, List.set_cons_zero, List.set_cons_succ]
            refine wpAnyH_take (i := 5) (oi := { dst := some 94, op := Op.load 26 (Operand.tmp 3), type := 26, pos := "laws.go:248", after := #[{ on := 4, ground := Ground.guard }], guard := some (4, false) }) (v := ?_) rfl (by kernel_rfl) (by kernel_rfl) (by kernel_rfl) (fun _ _ _ h => h) (Or.inl ⟨by rfl, ?_⟩) (by assumption) ?_
            rotate_left
            · intro wy hSw; (try dsimp only at hSw); go_simp; (try with_reducible rfl)
            try simp only [Act.put, List.setIfInBounds_toArray, List.set_cons_zero, List.set_cons_succ]
            refine wpAnyH_take (i := 7) (oi := { dst := some 96, op := Op.load 26 (Operand.tmp 3), type := 26, pos := "laws.go:248", after := #[{ on := 4, ground := Ground.guard }], guard := some (4, false) }) (v := ?_) rfl (by kernel_rfl) (by kernel_rfl) (by kernel_rfl) (fun _ _ _ h => h) (Or.inl ⟨by rfl, ?_⟩) (by assumption) ?_
            rotate_left
            · intro wy hSw; (try dsimp only at hSw); go_simp; (try with_reducible rfl)
            try simp only [Act.put, List.setIfInBounds_toArray, List.set_cons_zero, List.set_cons_succ]
            refine wpAnyH_ready (rs := [6]) (by kernel_rfl) (by simp) ?_
            refine AllReadyH.cons (o := { dst := some 95, op := Op.call { callee := Callee.value (Operand.func 14), args := #[Operand.tmp 94], argTypes := #[26] }, type := 4, pos := "laws.go:248", after := #[{ on := 5, ground := Ground.data }, { on := 4, ground := Ground.chain }, { on := 4, ground := Ground.guard }], guard := some (4, false) }) rfl (fun K2 hK2 => ?_) ?_
            · go_simp
              (refine (HI0.out _ ?_).mono ?_; exact Kn.list (w0 := w) (cs := [(w5.heap.size, nr, .slice Ar r.length cr), (w1.heap.size, nr, .slice Af r.length cf)]) (ls := [(Ar, r), (Af, r)]) (by assumption) 1 rfl; rintro e wq ⟨rfl, hb⟩; have hkn : Kn w wq [(w5.heap.size, nr, .slice Ar r.length cr), (w1.heap.size, nr, .slice Af r.length cf)] [(Ar, r), (Af, r)] := Kn.below (by assumption) hb; obtain ⟨c00, c01⟩ := hkn.cell 1 rfl; obtain ⟨c10, c11⟩ := hkn.cell 0 rfl; clear hb)
              try go_wp2_with fail
              refine hK2.out _ _ ?_ (fun hHeld => ?_)
              · (try dsimp only); (refine ⟨?_, ?_, ?_, ?_, ?_⟩ <;> (first | assumption))
              clear hK2 K2
              try simp only [Act.put, List.setIfInBounds_toArray, List.set_cons_zero, List.set_cons_succ]
              refine wpAnyH_ready (rs := [8]) (by kernel_rfl) (by simp) ?_
              refine AllReadyH.cons (o := { dst := some 97, op := Op.call { callee := Callee.value (Operand.func 15), args := #[Operand.tmp 96], argTypes := #[26] }, type := 4, pos := "laws.go:248", after := #[{ on := 7, ground := Ground.data }, { on := 6, ground := Ground.chain }, { on := 4, ground := Ground.guard }], guard := some (4, false) }) rfl (fun K3 hK3 => ?_) ?_
              · go_simp
                (refine (HI1.out _ ?_).mono ?_; exact Kn.list (w0 := w) (cs := [(w5.heap.size, nr, .slice Ar r.length cr), (w1.heap.size, nr, .slice Af r.length cf)]) (ls := [(Ar, r), (Af, r)]) (by assumption) 1 rfl; rintro e wq ⟨rfl, hb⟩; have hkn : Kn w wq [(w5.heap.size, nr, .slice Ar r.length cr), (w1.heap.size, nr, .slice Af r.length cf)] [(Ar, r), (Af, r)] := Kn.below (by assumption) hb; obtain ⟨c00, c01⟩ := hkn.cell 1 rfl; obtain ⟨c10, c11⟩ := hkn.cell 0 rfl; clear hb)
                try go_wp2_with fail
                refine hK3.out _ _ ?_ (fun hHeld => ?_)
                · (try dsimp only); (refine ⟨?_, ?_, ?_, ?_, ?_⟩ <;> (first | assumption))
                clear hK3 K3
                try simp only [Act.put, List.setIfInBounds_toArray, List.set_cons_zero, List.set_cons_succ]
                refine wpAnyH_take (i := 9) (oi := { dst := some 98, op := Op.binOp BinOp.neq 4 (Operand.tmp 95) (Operand.tmp 97) 4, type := 4, pos := "laws.go:248", after := #[{ on := 6, ground := Ground.data }, { on := 8, ground := Ground.data }, { on := 4, ground := Ground.guard }], guard := some (4, false) }) (v := ?_) rfl (by kernel_rfl) (by kernel_rfl) (by kernel_rfl) (fun _ _ _ h => h) (Or.inl ⟨by rfl, ?_⟩) (by assumption) ?_
                rotate_left
                · intro wy hSw; (try dsimp only at hSw); go_simp; (try with_reducible rfl)
                try simp only [Act.put, List.setIfInBounds_toArray, List.set_cons_zero, List.set_cons_succ]
                refine wpAnyH_take (i := 10) (oi := { dst := some 99, op := Op.pick (Operand.tmp 93) (Operand.const (Value.bool true)) (Operand.tmp 98), type := 4, pos := "laws.go:248", after := #[{ on := 4, ground := Ground.data }, { on := 9, ground := Ground.data }], guard := none }) (v := ?_) rfl (by kernel_rfl) (by kernel_rfl) (by kernel_rfl) (fun _ _ _ h => h) (Or.inl ⟨by rfl, ?_⟩) (by assumption) ?_
                rotate_left
                · intro wy hSw; (try dsimp only at hSw); go_simp; (try with_reducible rfl)
                try simp only [Act.put, List.setIfInBounds_toArray, List.set_cons_zero, List.set_cons_succ]
                refine wpAnyH_take (i := 11) (oi := { dst := some 100, op := Op.move (Operand.tmp 99), type := 4, pos := "laws.go:248", after := #[{ on := 10, ground := Ground.data }, { on := 8, ground := Ground.chain }], guard := none }) (v := ?_) rfl (by kernel_rfl) (by kernel_rfl) (by kernel_rfl) (fun _ _ _ h => h) (Or.inl ⟨by rfl, ?_⟩) (by assumption) ?_
                rotate_left
                · intro wy hSw; (try dsimp only at hSw); go_simp; (try with_reducible rfl)
                try simp only [Act.put, List.setIfInBounds_toArray, List.set_cons_zero, List.set_cons_succ]
                refine wpAnyH_take (i := 12) (oi := { dst := some 101, op := Op.move (Operand.tmp 9), type := 9, pos := "laws.go:248", after := #[{ on := 11, ground := Ground.guard }], guard := some (11, false) }) (v := ?_) rfl (by kernel_rfl) (by kernel_rfl) (by kernel_rfl) (fun _ _ _ h => h) (Or.inl ⟨by rfl, ?_⟩) (by assumption) ?_
                rotate_left
                · intro wy hSw; (try dsimp only at hSw); go_simp; (try with_reducible rfl)
                try simp only [Act.put, List.setIfInBounds_toArray, List.set_cons_zero, List.set_cons_succ]
                refine wpAnyH_take (i := 13) (oi := { dst := some 102, op := Op.call { callee := Callee.builtin Builtin.len, args := #[Operand.tmp 101], argTypes := #[9] }, type := 3, pos := "laws.go:248", after := #[{ on := 12, ground := Ground.data }, { on := 11, ground := Ground.guard }], guard := some (11, false) }) (v := ?_) rfl (by kernel_rfl) (by kernel_rfl) (by kernel_rfl) (fun _ _ _ h => h) (Or.inl ⟨by rfl, ?_⟩) (by assumption) ?_
                rotate_left
                · intro wy hSw; (try dsimp only at hSw); go_simp; (try with_reducible rfl)
                try simp only [Act.put, List.setIfInBounds_toArray, List.set_cons_zero, List.set_cons_succ]
                refine wpAnyH_take (i := 14) (oi := { dst := some 103, op := Op.binOp BinOp.leq 3 (Operand.tmp 102) (Operand.const (Value.int IntKind.i64 200)) 3, type := 4, pos := "laws.go:248", after := #[{ on := 13, ground := Ground.data }, { on := 11, ground := Ground.guard }], guard := some (11, false) }) (v := ?_) rfl (by kernel_rfl) (by kernel_rfl) (by kernel_rfl) (fun _ _ _ h => h) (Or.inl ⟨by rfl, ?_⟩) (by assumption) ?_
                rotate_left
                · intro wy hSw; (try dsimp only at hSw); go_simp; (try with_reducible rfl)
                try simp only [Act.put, List.setIfInBounds_toArray, List.set_cons_zero, List.set_cons_succ]
                refine wpAnyH_take (i := 15) (oi := { dst := some 104, op := Op.move (Operand.tmp 103), type := 4, pos := "laws.go:248", after := #[{ on := 14, ground := Ground.data }, { on := 11, ground := Ground.chain }, { on := 11, ground := Ground.guard }], guard := some (11, false) }) (v := ?_) rfl (by kernel_rfl) (by kernel_rfl) (by kernel_rfl) (fun _ _ _ h => h) (Or.inl ⟨by rfl, ?_⟩) (by assumption) ?_
                rotate_left
                · intro wy hSw; (try dsimp only at hSw); go_simp; (try with_reducible rfl)
                try simp only [Act.put, List.setIfInBounds_toArray, List.set_cons_zero, List.set_cons_succ]
                refine wpAnyH_take (i := 16) (oi := { dst := some 105, op := Op.move (Operand.tmp 11), type := 4, pos := "laws.go:248", after := #[{ on := 15, ground := Ground.guard }], guard := some (15, true) }) (v := ?_) rfl (by kernel_rfl) (by kernel_rfl) (by kernel_rfl) (fun _ _ _ h => h) (Or.inl ⟨by rfl, ?_⟩) (by assumption) ?_
                rotate_left
                · intro wy hSw; (try dsimp only at hSw); go_simp; (try with_reducible rfl)
                try simp only [Act.put, List.setIfInBounds_toArray, List.set_cons_zero, List.set_cons_succ]
                refine wpAnyH_take (i := 17) (oi := { dst := some 106, op := Op.load 26 (Operand.tmp 3), type := 26, pos := "laws.go:248", after := #[{ on := 15, ground := Ground.guard }], guard := some (15, true) }) (v := ?_) rfl (by kernel_rfl) (by kernel_rfl) (by kernel_rfl) (fun _ _ _ h => h) (Or.inl ⟨by rfl, ?_⟩) (by assumption) ?_
                rotate_left
                · intro wy hSw; (try dsimp only at hSw); go_simp; (try with_reducible rfl)
                try simp only [Act.put, List.setIfInBounds_toArray, List.set_cons_zero, List.set_cons_succ]
                refine wpAnyH_ready (rs := [18]) (by kernel_rfl) (by simp) ?_
                refine AllReadyH.cons (o := { dst := some 107, op := Op.call { callee := Callee.value (Operand.func 15), args := #[Operand.tmp 106], argTypes := #[26] }, type := 4, pos := "laws.go:248", after := #[{ on := 17, ground := Ground.data }, { on := 15, ground := Ground.chain }, { on := 15, ground := Ground.guard }], guard := some (15, true) }) rfl (fun K4 hK4 => ?_) ?_
                · go_simp
                  (refine (HI1.out _ ?_).mono ?_; exact Kn.list (w0 := w) (cs := [(w5.heap.size, nr, .slice Ar r.length cr), (w1.heap.size, nr, .slice Af r.length cf)]) (ls := [(Ar, r), (Af, r)]) (by assumption) 1 rfl; rintro e wq ⟨rfl, hb⟩; have hkn : Kn w wq [(w5.heap.size, nr, .slice Ar r.length cr), (w1.heap.size, nr, .slice Af r.length cf)] [(Ar, r), (Af, r)] := Kn.below (by assumption) hb; obtain ⟨c00, c01⟩ := hkn.cell 1 rfl; obtain ⟨c10, c11⟩ := hkn.cell 0 rfl; clear hb)
                  try go_wp2_with fail
                  refine hK4.out _ _ ?_ (fun hHeld => ?_)
                  · (try dsimp only); (refine ⟨?_, ?_, ?_, ?_, ?_⟩ <;> (first | assumption))
                  clear hK4 K4
                  try simp only [Act.put, List.setIfInBounds_toArray, List.set_cons_zero, List.set_cons_succ]
                  refine wpAnyH_take (i := 19) (oi := { dst := some 108, op := Op.binOp BinOp.neq 4 (Operand.tmp 105) (Operand.tmp 107) 4, type := 4, pos := "laws.go:248", after := #[{ on := 16, ground := Ground.data }, { on := 18, ground := Ground.data }, { on := 15, ground := Ground.guard }], guard := some (15, true) }) (v := ?_) rfl (by kernel_rfl) (by kernel_rfl) (by kernel_rfl) (fun _ _ _ h => h) (Or.inl ⟨by rfl, ?_⟩) (by assumption) ?_
                  rotate_left
                  · intro wy hSw; (try dsimp only at hSw); go_simp; (try with_reducible rfl)
                  try simp only [Act.put, List.setIfInBounds_toArray, List.set_cons_zero, List.set_cons_succ]
                  refine wpAnyH_take (i := 20) (oi := { dst := some 109, op := Op.move (Operand.tmp 108), type := 4, pos := "laws.go:248", after := #[{ on := 19, ground := Ground.data }, { on := 18, ground := Ground.chain }, { on := 15, ground := Ground.guard }], guard := some (15, true) }) (v := ?_) rfl (by kernel_rfl) (by kernel_rfl) (by kernel_rfl) (fun _ _ _ h => h) (Or.inl ⟨by rfl, ?_⟩) (by assumption) ?_
                  rotate_left
                  · intro wy hSw; (try dsimp only at hSw); go_simp; (try with_reducible rfl)
                  try simp only [Act.put, List.setIfInBounds_toArray, List.set_cons_zero, List.set_cons_succ]
                  refine wpAnyH_take (i := 21) (oi := { dst := some 110, op := Op.move (Operand.tmp 11), type := 4, pos := "laws.go:248", after := #[{ on := 20, ground := Ground.guard }], guard := some (20, false) }) (v := ?_) rfl (by kernel_rfl) (by kernel_rfl) (by kernel_rfl) (fun _ _ _ h => h) (Or.inl ⟨by rfl, ?_⟩) (by assumption) ?_
                  rotate_left
                  · intro wy hSw; (try dsimp only at hSw); go_simp; (try with_reducible rfl)
                  try simp only [Act.put, List.setIfInBounds_toArray, List.set_cons_zero, List.set_cons_succ]
                  refine wpAnyH_take (i := 22) (oi := { dst := some 111, op := Op.move (Operand.tmp 110), type := 4, pos := "laws.go:248", after := #[{ on := 21, ground := Ground.data }, { on := 20, ground := Ground.chain }, { on := 20, ground := Ground.guard }], guard := some (20, false) }) (v := ?_) rfl (by kernel_rfl) (by kernel_rfl) (by kernel_rfl) (fun _ _ _ h => h) (Or.inl ⟨by rfl, ?_⟩) (by assumption) ?_
                  rotate_left
                  · intro wy hSw; (try dsimp only at hSw); go_simp; (try with_reducible rfl)
                  try simp only [Act.put, List.setIfInBounds_toArray, List.set_cons_zero, List.set_cons_succ]
                  refine wpAnyH_take (i := 23) (oi := { dst := some 112, op := Op.load 26 (Operand.tmp 10), type := 26, pos := "laws.go:248", after := #[{ on := 22, ground := Ground.guard }], guard := some (22, true) }) (v := ?_) rfl (by kernel_rfl) (by kernel_rfl) (by kernel_rfl) (fun _ _ _ h => h) (Or.inl ⟨by rfl, ?_⟩) (by assumption) ?_
                  rotate_left
                  · intro wy hSw; (try dsimp only at hSw); go_simp; (try with_reducible rfl)
                  try simp only [Act.put, List.setIfInBounds_toArray, List.set_cons_zero, List.set_cons_succ]
                  refine wpAnyH_take (i := 24) (oi := { dst := some 113, op := Op.load 26 (Operand.tmp 3), type := 26, pos := "laws.go:248", after := #[{ on := 22, ground := Ground.guard }], guard := some (22, true) }) (v := ?_) rfl (by kernel_rfl) (by kernel_rfl) (by kernel_rfl) (fun _ _ _ h => h) (Or.inl ⟨by rfl, ?_⟩) (by assumption) ?_
                  rotate_left
                  · intro wy hSw; (try dsimp only at hSw); go_simp; (try with_reducible rfl)
                  try simp only [Act.put, List.setIfInBounds_toArray, List.set_cons_zero, List.set_cons_succ]
                  refine wpAnyH_ready (rs := [25]) (by kernel_rfl) (by simp) ?_
                  refine AllReadyH.cons (o := { dst := some 114, op := Op.call { callee := Callee.value (Operand.func 8), args := #[Operand.tmp 112, Operand.tmp 113], argTypes := #[26, 26] }, type := 4, pos := "laws.go:248", after := #[{ on := 23, ground := Ground.data }, { on := 24, ground := Ground.data }, { on := 22, ground := Ground.chain }, { on := 22, ground := Ground.guard }], guard := some (22, true) }) rfl (fun K5 hK5 => ?_) ?_
                  · go_simp
                    (refine (HEQ.out _ ?_ ?_).mono ?_; exact Kn.list (w0 := w) (cs := [(w5.heap.size, nr, .slice Ar r.length cr), (w1.heap.size, nr, .slice Af r.length cf)]) (ls := [(Ar, r), (Af, r)]) (by assumption) 0 rfl; exact Kn.list (w0 := w) (cs := [(w5.heap.size, nr, .slice Ar r.length cr), (w1.heap.size, nr, .slice Af r.length cf)]) (ls := [(Ar, r), (Af, r)]) (by assumption) 1 rfl; rintro e wq ⟨rfl, hb⟩; have hkn : Kn w wq [(w5.heap.size, nr, .slice Ar r.length cr), (w1.heap.size, nr, .slice Af r.length cf)] [(Ar, r), (Af, r)] := Kn.below (by assumption) hb; obtain ⟨c00, c01⟩ := hkn.cell 1 rfl; obtain ⟨c10, c11⟩ := hkn.cell 0 rfl; clear hb)
                    try go_wp2_with fail
                    refine hK5.out _ _ ?_ (fun hHeld => ?_)
                    · (try dsimp only); (refine ⟨?_, ?_, ?_, ?_, ?_⟩ <;> (first | assumption))
                    clear hK5 K5
                    try simp only [Act.put, List.setIfInBounds_toArray, List.set_cons_zero, List.set_cons_succ]
                    refine wpAnyH_take (i := 26) (oi := { dst := some 115, op := Op.unOp UnOp.not 4 (Operand.tmp 114), type := 4, pos := "laws.go:248", after := #[{ on := 25, ground := Ground.data }, { on := 22, ground := Ground.guard }], guard := some (22, true) }) (v := ?_) rfl (by kernel_rfl) (by kernel_rfl) (by kernel_rfl) (fun _ _ _ h => h) (Or.inl ⟨by rfl, ?_⟩) (by assumption) ?_
                    rotate_left
                    · intro wy hSw; (try dsimp only at hSw); go_simp; (try with_reducible rfl)
                    try simp only [Act.put, List.setIfInBounds_toArray, List.set_cons_zero, List.set_cons_succ]
                    refine wpAnyH_take (i := 27) (oi := { dst := some 116, op := Op.pick (Operand.tmp 111) (Operand.tmp 115) (Operand.const (Value.bool false)), type := 4, pos := "laws.go:248", after := #[{ on := 22, ground := Ground.data }, { on := 26, ground := Ground.data }, { on := 20, ground := Ground.guard }], guard := some (20, false) }) (v := ?_) rfl (by kernel_rfl) (by kernel_rfl) (by kernel_rfl) (fun _ _ _ h => h) (Or.inl ⟨by rfl, ?_⟩) (by assumption) ?_
                    rotate_left
                    · intro wy hSw; (try dsimp only at hSw); go_simp; (try with_reducible rfl)
                    try simp only [Act.put, List.setIfInBounds_toArray, List.set_cons_zero, List.set_cons_succ]
                    refine wpAnyH_take (i := 28) (oi := { dst := some 117, op := Op.pick (Operand.tmp 109) (Operand.const (Value.bool true)) (Operand.tmp 116), type := 4, pos := "laws.go:248", after := #[{ on := 20, ground := Ground.data }, { on := 27, ground := Ground.data }, { on := 15, ground := Ground.guard }], guard := some (15, true) }) (v := ?_) rfl (by kernel_rfl) (by kernel_rfl) (by kernel_rfl) (fun _ _ _ h => h) (Or.inl ⟨by rfl, ?_⟩) (by assumption) ?_
                    rotate_left
                    · intro wy hSw; (try dsimp only at hSw); go_simp; (try with_reducible rfl)
                    try simp only [Act.put, List.setIfInBounds_toArray, List.set_cons_zero, List.set_cons_succ]
                    refine wpAnyH_take (i := 29) (oi := { dst := some 118, op := Op.pick (Operand.tmp 104) (Operand.tmp 117) (Operand.const (Value.bool false)), type := 4, pos := "laws.go:248", after := #[{ on := 15, ground := Ground.data }, { on := 28, ground := Ground.data }, { on := 11, ground := Ground.guard }], guard := some (11, false) }) (v := ?_) rfl (by kernel_rfl) (by kernel_rfl) (by kernel_rfl) (fun _ _ _ h => h) (Or.inl ⟨by rfl, ?_⟩) (by assumption) ?_
                    rotate_left
                    · intro wy hSw; (try dsimp only at hSw); go_simp; (try with_reducible rfl)
                    try simp only [Act.put, List.setIfInBounds_toArray, List.set_cons_zero, List.set_cons_succ]
                    refine wpAnyH_take (i := 30) (oi := { dst := some 119, op := Op.pick (Operand.tmp 100) (Operand.const (Value.bool true)) (Operand.tmp 118), type := 4, pos := "laws.go:248", after := #[{ on := 11, ground := Ground.data }, { on := 29, ground := Ground.data }], guard := none }) (v := ?_) rfl (by kernel_rfl) (by kernel_rfl) (by kernel_rfl) (fun _ _ _ h => h) (Or.inl ⟨by rfl, ?_⟩) (by assumption) ?_
                    rotate_left
                    · intro wy hSw; (try dsimp only at hSw); go_simp; (try with_reducible rfl)
                    try simp only [Act.put, List.setIfInBounds_toArray, List.set_cons_zero, List.set_cons_succ]
                    refine wpAnyH_done (by kernel_rfl) ?_ _
                    go_wp2_with fail
                    go_meet
                    exact ⟨rfl, (Kn.only (w0 := w) (cs := [(w5.heap.size, nr, .slice Ar r.length cr), (w1.heap.size, nr, .slice Af r.length cf)]) (ls := [(Ar, r), (Af, r)]) (by assumption) [] [] rfl rfl)⟩
                  exact AllReadyH.nil
                exact AllReadyH.nil
              exact AllReadyH.nil
            exact AllReadyH.nil
          exact AllReadyH.nil
    case rest =>
      obtain ⟨rfl, hK⟩ := hcut
      have HK7 := Lib.hid hK
      clear hK HK6 HF1 HI0 HI1 HPF HPN HRN HRL
      go_wp2_with fail
      refine (gain_got a len cap _ hl (HY.out _ HK7.out.base)).mono ?_
      rintro e w8 ⟨_, na, xa, s1, e1, rfl, ⟨gs1, gs2, ge1, ge2⟩, ⟨Aa, ca, rfl, ho, hla⟩, hb⟩
      have HK8 := Lib.hid (((HK7.out.below hb).put ho.read).box na (.slice Aa xa.length ca) 26)
      clear ho hb HK7
      have HGI := Lib.hid (fun W (h1 : Ints W W.heap.size Aa xa) => gainI_any na Aa xa ca s1 e1 W (Lib.hid h1))
      have HGS := Lib.hid (fun W (h1 : Ints W W.heap.size Aa xa) => gainS_any na Aa xa ca s1 e1 W (Lib.hid h1))
      have HV1 := Lib.hid (fun W (h1 : Ints W W.heap.size Aa xa) => valI_any na Aa xa ca ((withE s1 e1 : Nat) : Int) W (Lib.hid h1))
      have HV2 := Lib.hid (fun W (h1 : Ints W W.heap.size Aa xa) => valI_any na Aa xa ca s1 W (Lib.hid h1))
      have HGV := Lib.hid (fun h => gain_val (n := na) (xs := xa) (s := s1) (e := e1) h)
      have vb1 := val_bd na xa ((withE s1 e1 : Nat) : Int)
      have vb2 := val_bd na xa s1
      obtain ⟨G, hG⟩ : ∃ G, gainOf na xa s1 e1 = G := ⟨_, rfl⟩
      rw [hG] at HGI HGS HGV
      clear hG
      obtain ⟨V1, hV1⟩ : ∃ V, valueOf na xa ((withE s1 e1 : Nat) : Int) = V := ⟨_, rfl⟩
      rw [hV1] at HV1 HGV vb1
      clear hV1
      obtain ⟨V2, hV2⟩ : ∃ V, valueOf na xa s1 = V := ⟨_, rfl⟩
      rw [hV2] at HV2 HGV vb2
      clear hV2
      go_wp2_with fail
      refine (HGI.out _ (HK8.out.list 0 rfl)).mono ?_
      rintro e w9 ⟨rfl, hb⟩
      have HK9 := Lib.hid (HK8.out.below hb)
      clear hb HK8 HGI
      go_upto_region 14 with (fail)
      go_cut [153] (fun s153 wx => s153 = .bool false ∧ Kn w wx [] [])
      case first =>
        have hk0 := HK9.out
        have hkd := hk0.drew
        obtain ⟨b00, b01⟩ := hk0.cell 0 rfl
        by_cases hg : -9999 < G
        · obtain ⟨q0, q1, q2, q3, q4⟩ := HGV.out hg
          have hor := or_shl (s := s1) (e := e1) q0 (by omega) q2 (by omega)
          have hor2 : bits BinOp.or IntKind.i64 s1 (IntKind.i64.wrap (2 ^ e1.toNat)) = ((withE s1 e1 : Nat) : Int) := by simp only [wrap64, IntKind.wrap_i64] at hor ⊢; exact hor
          clear hor
          have hsub : IntKind.i64.wrap (V1 - V2) = G := by rw [q4]; exact IntWalk.i64_in _ (by omega)
          have hgd : decide (-9999 < G) = true := by simpa using hg
          have hed : decide (e1 < 0) = false := by simpa using q2
          clear q4 vb1 vb2
          as_aux_lemma =>
            refine wp_region_held_drew (S := (fun w' => w'.cell? ⟨w8.heap.size, 0, none⟩ = some (.int .i64 na) ∧ w'.cell? ⟨w8.heap.size, 1, none⟩ = some (.slice Aa xa.length ca) ∧ Kn w w' [(w8.heap.size, na, .slice Aa xa.length ca)] [(Aa, xa)])) (by kernel_rfl) ?_ (fun hHeld => ?_)
            · refine ⟨?_, ?_, ?_⟩ <;> (first | assumption)
            refine wpAnyH_take (i := 0) (oi := { dst := some 130, op := Op.move (Operand.tmp 15), type := 3, pos := "laws.go:253", after := #[], guard := none }) (v := ?_) rfl (by kernel_rfl) (by kernel_rfl) (by kernel_rfl) (fun _ _ _ h => h) (Or.inl ⟨by rfl, ?_⟩) (by assumption) ?_
            rotate_left
            · intro wy hSw; (try dsimp only at hSw); go_simp; (try with_reducible rfl)
            try simp only [Act.put, List.setIfInBounds_toArray, List.set_cons_zero, List.set_cons_succ]
            refine wpAnyH_take (i := 1) (oi := { dst := some 131, op := Op.load 26 (Operand.tmp 12), type := 26, pos := "laws.go:253", after := #[], guard := none }) (v := ?_) rfl (by kernel_rfl) (by kernel_rfl) (by kernel_rfl) (fun _ _ _ h => h) (Or.inl ⟨by rfl, ?_⟩) (by assumption) ?_
            rotate_left
            · intro wy hSw; (try dsimp only at hSw); go_simp; (try with_reducible rfl)
            try simp only [Act.put, List.setIfInBounds_toArray, List.set_cons_zero, List.set_cons_succ]
            refine wpAnyH_take (i := 2) (oi := { dst := some 132, op := Op.move (Operand.tmp 13), type := 3, pos := "laws.go:253", after := #[], guard := none }) (v := ?_) rfl (by kernel_rfl) (by kernel_rfl) (by kernel_rfl) (fun _ _ _ h => h) (Or.inl ⟨by rfl, ?_⟩) (by assumption) ?_
            rotate_left
            · intro wy hSw; (try dsimp only at hSw); go_simp; (try with_reducible rfl)
            try simp only [Act.put, List.setIfInBounds_toArray, List.set_cons_zero, List.set_cons_succ]
            refine wpAnyH_take (i := 3) (oi := { dst := some 133, op := Op.move (Operand.tmp 14), type := 3, pos := "laws.go:253", after := #[], guard := none }) (v := ?_) rfl (by kernel_rfl) (by kernel_rfl) (by kernel_rfl) (fun _ _ _ h => h) (Or.inl ⟨by rfl, ?_⟩) (by assumption) ?_
            rotate_left
            · intro wy hSw; (try dsimp only at hSw); go_simp; (try with_reducible rfl)
            try simp only [Act.put, List.setIfInBounds_toArray, List.set_cons_zero, List.set_cons_succ]
            refine wpAnyH_ready (rs := [4]) (by kernel_rfl) (by simp) ?_
            refine AllReadyH.cons (o := { dst := some 134, op := Op.call { callee := Callee.value (Operand.func 18), args := #[Operand.tmp 131, Operand.tmp 132, Operand.tmp 133], argTypes := #[26, 3, 3] }, type := 3, pos := "laws.go:253", after := #[{ on := 1, ground := Ground.data }, { on := 2, ground := Ground.data }, { on := 3, ground := Ground.data }], guard := none }) rfl (fun K1 hK1 => ?_) ?_
            · go_simp
              (refine (HGS.out _ ?_).mono ?_; exact Kn.list (w0 := w) (cs := [(w8.heap.size, na, .slice Aa xa.length ca)]) (ls := [(Aa, xa)]) (by assumption) 0 rfl; rintro e wq ⟨rfl, hb⟩; have hkn : Kn w wq [(w8.heap.size, na, .slice Aa xa.length ca)] [(Aa, xa)] := Kn.below (by assumption) hb; obtain ⟨c00, c01⟩ := hkn.cell 0 rfl; clear hb)
              try go_wp2_with fail
              refine hK1.out _ _ ?_ (fun hHeld => ?_)
              · (try dsimp only); (refine ⟨?_, ?_, ?_⟩ <;> (first | assumption))
              clear hK1 K1
              try simp only [Act.put, List.setIfInBounds_toArray, List.set_cons_zero, List.set_cons_succ]
              refine wpAnyH_take (i := 5) (oi := { dst := some 135, op := Op.binOp BinOp.neq 3 (Operand.tmp 130) (Operand.tmp 134) 3, type := 4, pos := "laws.go:253", after := #[{ on := 0, ground := Ground.data }, { on := 4, ground := Ground.data }], guard := none }) (v := ?_) rfl (by kernel_rfl) (by kernel_rfl) (by kernel_rfl) (fun _ _ _ h => h) (Or.inl ⟨by rfl, ?_⟩) (by assumption) ?_
              rotate_left
              · intro wy hSw; (try dsimp only at hSw); go_simp; (try with_reducible rfl)
              try simp only [Act.put, List.setIfInBounds_toArray, List.set_cons_zero, List.set_cons_succ]
              refine wpAnyH_take (i := 6) (oi := { dst := some 136, op := Op.move (Operand.tmp 135), type := 4, pos := "laws.go:253", after := #[{ on := 5, ground := Ground.data }, { on := 4, ground := Ground.chain }], guard := none }) (v := ?_) rfl (by kernel_rfl) (by kernel_rfl) (by kernel_rfl) (fun _ _ _ h => h) (Or.inl ⟨by rfl, ?_⟩) (by assumption) ?_
              rotate_left
              · intro wy hSw; (try dsimp only at hSw); go_simp; (try with_reducible rfl)
              try simp only [Act.put, List.setIfInBounds_toArray, List.set_cons_zero, List.set_cons_succ]
              refine wpAnyH_take (i := 7) (oi := { dst := some 137, op := Op.move (Operand.tmp 15), type := 3, pos := "laws.go:253", after := #[{ on := 6, ground := Ground.guard }], guard := some (6, false) }) (v := ?_) rfl (by kernel_rfl) (by kernel_rfl) (by kernel_rfl) (fun _ _ _ h => h) (Or.inl ⟨by rfl, ?_⟩) (by assumption) ?_
              rotate_left
              · intro wy hSw; (try dsimp only at hSw); go_simp; (try with_reducible rfl)
              try simp only [Act.put, List.setIfInBounds_toArray, List.set_cons_zero, List.set_cons_succ]
              refine wpAnyH_take (i := 8) (oi := { dst := some 138, op := Op.binOp BinOp.gtr 3 (Operand.tmp 137) (Operand.const (Value.int IntKind.i64 (-9999))) 3, type := 4, pos := "laws.go:253", after := #[{ on := 7, ground := Ground.data }, { on := 6, ground := Ground.guard }], guard := some (6, false) }) (v := ?_) rfl (by kernel_rfl) (by kernel_rfl) (by kernel_rfl) (fun _ _ _ h => h) (Or.inl ⟨by rfl, ?_⟩) (by assumption) ?_
              rotate_left
              · intro wy hSw; (try dsimp only at hSw); go_simp; (try with_reducible rfl)
              try simp only [Act.put, List.setIfInBounds_toArray, List.set_cons_zero, List.set_cons_succ]
              refine wpAnyH_take (i := 9) (oi := { dst := some 139, op := Op.move (Operand.tmp 138), type := 4, pos := "laws.go:253", after := #[{ on := 8, ground := Ground.data }, { on := 6, ground := Ground.chain }, { on := 6, ground := Ground.guard }], guard := some (6, false) }) (v := ?_) rfl (by kernel_rfl) (by kernel_rfl) (by kernel_rfl) (fun _ _ _ h => h) (Or.inl ⟨by rfl, ?_⟩) (by assumption) ?_
              rotate_left
              · intro wy hSw; (try dsimp only at hSw); go_simp; (try with_reducible rfl)
              try simp only [Act.put, List.setIfInBounds_toArray, List.set_cons_zero, List.set_cons_succ]
              refine wpAnyH_take (i := 10) (oi := { dst := some 140, op := Op.move (Operand.tmp 15), type := 3, pos := "laws.go:253", after := #[{ on := 9, ground := Ground.guard }], guard := some (9, true) }) (v := ?_) rfl (by kernel_rfl) (by kernel_rfl) (by kernel_rfl) (fun _ _ _ h => h) (Or.inl ⟨by rfl, ?_⟩) (by assumption) ?_
              rotate_left
              · intro wy hSw; (try dsimp only at hSw); go_simp; (try with_reducible rfl)
              try simp only [Act.put, List.setIfInBounds_toArray, List.set_cons_zero, List.set_cons_succ]
              refine wpAnyH_take (i := 11) (oi := { dst := some 141, op := Op.load 26 (Operand.tmp 12), type := 26, pos := "laws.go:253", after := #[{ on := 9, ground := Ground.guard }], guard := some (9, true) }) (v := ?_) rfl (by kernel_rfl) (by kernel_rfl) (by kernel_rfl) (fun _ _ _ h => h) (Or.inl ⟨by rfl, ?_⟩) (by assumption) ?_
              rotate_left
              · intro wy hSw; (try dsimp only at hSw); go_simp; (try with_reducible rfl)
              try simp only [Act.put, List.setIfInBounds_toArray, List.set_cons_zero, List.set_cons_succ]
              refine wpAnyH_take (i := 12) (oi := { dst := some 142, op := Op.move (Operand.tmp 13), type := 3, pos := "laws.go:253", after := #[{ on := 9, ground := Ground.guard }], guard := some (9, true) }) (v := ?_) rfl (by kernel_rfl) (by kernel_rfl) (by kernel_rfl) (fun _ _ _ h => h) (Or.inl ⟨by rfl, ?_⟩) (by assumption) ?_
              rotate_left
              · intro wy hSw; (try dsimp only at hSw); go_simp; (try with_reducible rfl)
              try simp only [Act.put, List.setIfInBounds_toArray, List.set_cons_zero, List.set_cons_succ]
              refine wpAnyH_take (i := 13) (oi := { dst := some 143, op := Op.move (Operand.tmp 14), type := 3, pos := "laws.go:253", after := #[{ on := 9, ground := Ground.guard }], guard := some (9, true) }) (v := ?_) rfl (by kernel_rfl) (by kernel_rfl) (by kernel_rfl) (fun _ _ _ h => h) (Or.inl ⟨by rfl, ?_⟩) (by assumption) ?_
              rotate_left
              · intro wy hSw; (try dsimp only at hSw); go_simp; (try with_reducible rfl)
              try simp only [Act.put, List.setIfInBounds_toArray, List.set_cons_zero, List.set_cons_succ]
              refine wpAnyH_take (i := 14) (oi := { dst := some 144, op := Op.binOp BinOp.shl 3 (Operand.const (Value.int IntKind.i64 1)) (Operand.tmp 143) 3, type := 3, pos := "laws.go:253", after := #[{ on := 13, ground := Ground.data }, { on := 9, ground := Ground.guard }], guard := some (9, true) }) (v := ?_) rfl (by kernel_rfl) (by kernel_rfl) (by kernel_rfl) (fun _ _ _ h => h) (Or.inl ⟨by rfl, ?_⟩) (by assumption) ?_
              rotate_left
              · intro wy hSw; (try dsimp only at hSw); go_simp; (try with_reducible rfl)
              try simp only [Act.put, List.setIfInBounds_toArray, List.set_cons_zero, List.set_cons_succ]
              refine wpAnyH_take (i := 15) (oi := { dst := some 145, op := Op.binOp BinOp.or 3 (Operand.tmp 142) (Operand.tmp 144) 3, type := 3, pos := "laws.go:253", after := #[{ on := 12, ground := Ground.data }, { on := 14, ground := Ground.data }, { on := 9, ground := Ground.guard }], guard := some (9, true) }) (v := ?_) rfl (by kernel_rfl) (by kernel_rfl) (by kernel_rfl) (fun _ _ _ h => h) (Or.inl ⟨by rfl, ?_⟩) (by assumption) ?_
              rotate_left
              · intro wy hSw; (try dsimp only at hSw); go_simp; (try with_reducible rfl)
              try simp only [Act.put, List.setIfInBounds_toArray, List.set_cons_zero, List.set_cons_succ]
              refine wpAnyH_take (i := 17) (oi := { dst := some 147, op := Op.load 26 (Operand.tmp 12), type := 26, pos := "laws.go:253", after := #[{ on := 9, ground := Ground.guard }], guard := some (9, true) }) (v := ?_) rfl (by kernel_rfl) (by kernel_rfl) (by kernel_rfl) (fun _ _ _ h => h) (Or.inl ⟨by rfl, ?_⟩) (by assumption) ?_
              rotate_left
              · intro wy hSw; (try dsimp only at hSw); go_simp; (try with_reducible rfl)
              try simp only [Act.put, List.setIfInBounds_toArray, List.set_cons_zero, List.set_cons_succ]
              refine wpAnyH_take (i := 18) (oi := { dst := some 148, op := Op.move (Operand.tmp 13), type := 3, pos := "laws.go:253", after := #[{ on := 9, ground := Ground.guard }], guard := some (9, true) }) (v := ?_) rfl (by kernel_rfl) (by kernel_rfl) (by kernel_rfl) (fun _ _ _ h => h) (Or.inl ⟨by rfl, ?_⟩) (by assumption) ?_
              rotate_left
              · intro wy hSw; (try dsimp only at hSw); go_simp; (try with_reducible rfl)
              try simp only [Act.put, List.setIfInBounds_toArray, List.set_cons_zero, List.set_cons_succ]
              refine wpAnyH_ready (rs := [16]) (by kernel_rfl) (by simp) ?_
              refine AllReadyH.cons (o := { dst := some 146, op := Op.call { callee := Callee.value (Operand.func 19), args := #[Operand.tmp 141, Operand.tmp 145], argTypes := #[26, 3] }, type := 3, pos := "laws.go:253", after := #[{ on := 11, ground := Ground.data }, { on := 15, ground := Ground.data }, { on := 9, ground := Ground.chain }, { on := 9, ground := Ground.guard }], guard := some (9, true) }) rfl (fun K2 hK2 => ?_) ?_
              · go_simp
                (refine (HV1.out _ ?_).mono ?_; exact Kn.list (w0 := w) (cs := [(w8.heap.size, na, .slice Aa xa.length ca)]) (ls := [(Aa, xa)]) (by assumption) 0 rfl; rintro e wq ⟨rfl, hb⟩; have hkn : Kn w wq [(w8.heap.size, na, .slice Aa xa.length ca)] [(Aa, xa)] := Kn.below (by assumption) hb; obtain ⟨c00, c01⟩ := hkn.cell 0 rfl; clear hb)
                try go_wp2_with fail
                refine hK2.out _ _ ?_ (fun hHeld => ?_)
                · (try dsimp only); (refine ⟨?_, ?_, ?_⟩ <;> (first | assumption))
                clear hK2 K2
                try simp only [Act.put, List.setIfInBounds_toArray, List.set_cons_zero, List.set_cons_succ]
                refine wpAnyH_ready (rs := [19]) (by kernel_rfl) (by simp) ?_
                refine AllReadyH.cons (o := { dst := some 149, op := Op.call { callee := Callee.value (Operand.func 19), args := #[Operand.tmp 147, Operand.tmp 148], argTypes := #[26, 3] }, type := 3, pos := "laws.go:253", after := #[{ on := 17, ground := Ground.data }, { on := 18, ground := Ground.data }, { on := 16, ground := Ground.chain }, { on := 9, ground := Ground.guard }], guard := some (9, true) }) rfl (fun K3 hK3 => ?_) ?_
                · go_simp
                  (refine (HV2.out _ ?_).mono ?_; exact Kn.list (w0 := w) (cs := [(w8.heap.size, na, .slice Aa xa.length ca)]) (ls := [(Aa, xa)]) (by assumption) 0 rfl; rintro e wq ⟨rfl, hb⟩; have hkn : Kn w wq [(w8.heap.size, na, .slice Aa xa.length ca)] [(Aa, xa)] := Kn.below (by assumption) hb; obtain ⟨c00, c01⟩ := hkn.cell 0 rfl; clear hb)
                  try go_wp2_with fail
                  refine hK3.out _ _ ?_ (fun hHeld => ?_)
                  · (try dsimp only); (refine ⟨?_, ?_, ?_⟩ <;> (first | assumption))
                  clear hK3 K3
                  try simp only [Act.put, List.setIfInBounds_toArray, List.set_cons_zero, List.set_cons_succ]
                  refine wpAnyH_take (i := 20) (oi := { dst := some 150, op := Op.binOp BinOp.sub 3 (Operand.tmp 146) (Operand.tmp 149) 3, type := 3, pos := "laws.go:253", after := #[{ on := 16, ground := Ground.data }, { on := 19, ground := Ground.data }, { on := 9, ground := Ground.guard }], guard := some (9, true) }) (v := ?_) rfl (by kernel_rfl) (by kernel_rfl) (by kernel_rfl) (fun _ _ _ h => h) (Or.inl ⟨by rfl, ?_⟩) (by assumption) ?_
                  rotate_left
                  · intro wy hSw; (try dsimp only at hSw); go_simp; (try with_reducible rfl)
                  try simp only [Act.put, List.setIfInBounds_toArray, List.set_cons_zero, List.set_cons_succ]
                  refine wpAnyH_take (i := 21) (oi := { dst := some 151, op := Op.binOp BinOp.neq 3 (Operand.tmp 140) (Operand.tmp 150) 3, type := 4, pos := "laws.go:253", after := #[{ on := 10, ground := Ground.data }, { on := 20, ground := Ground.data }, { on := 9, ground := Ground.guard }], guard := some (9, true) }) (v := ?_) rfl (by kernel_rfl) (by kernel_rfl) (by kernel_rfl) (fun _ _ _ h => h) (Or.inl ⟨by rfl, ?_⟩) (by assumption) ?_
                  rotate_left
                  · intro wy hSw; (try dsimp only at hSw); go_simp; (try with_reducible rfl)
                  try simp only [Act.put, List.setIfInBounds_toArray, List.set_cons_zero, List.set_cons_succ]
                  refine wpAnyH_take (i := 22) (oi := { dst := some 152, op := Op.pick (Operand.tmp 139) (Operand.tmp 151) (Operand.const (Value.bool false)), type := 4, pos := "laws.go:253", after := #[{ on := 9, ground := Ground.data }, { on := 21, ground := Ground.data }, { on := 6, ground := Ground.guard }], guard := some (6, false) }) (v := ?_) rfl (by kernel_rfl) (by kernel_rfl) (by kernel_rfl) (fun _ _ _ h => h) (Or.inl ⟨by rfl, ?_⟩) (by assumption) ?_
                  rotate_left
                  · intro wy hSw; (try dsimp only at hSw); go_simp; (try with_reducible rfl)
                  try simp only [Act.put, List.setIfInBounds_toArray, List.set_cons_zero, List.set_cons_succ]
                  refine wpAnyH_take (i := 23) (oi := { dst := some 153, op := Op.pick (Operand.tmp 136) (Operand.const (Value.bool true)) (Operand.tmp 152), type := 4, pos := "laws.go:253", after := #[{ on := 6, ground := Ground.data }, { on := 22, ground := Ground.data }], guard := none }) (v := ?_) rfl (by kernel_rfl) (by kernel_rfl) (by kernel_rfl) (fun _ _ _ h => h) (Or.inl ⟨by rfl, ?_⟩) (by assumption) ?_
                  rotate_left
                  · intro wy hSw; (try dsimp only at hSw); go_simp; (try with_reducible rfl)
                  try simp only [Act.put, List.setIfInBounds_toArray, List.set_cons_zero, List.set_cons_succ]
                  refine wpAnyH_done (by kernel_rfl) ?_ _
                  go_wp2_with fail
                  go_meet
                  exact ⟨rfl, (Kn.only (w0 := w) (cs := [(w8.heap.size, na, .slice Aa xa.length ca)]) (ls := [(Aa, xa)]) (by assumption) [] [] rfl rfl)⟩
                exact AllReadyH.nil
              exact AllReadyH.nil
            exact AllReadyH.nil
        · have hgd : decide (-9999 < G) = false := by simpa using hg
          as_aux_lemma =>
            refine wp_region_held_drew (S := (fun w' => w'.cell? ⟨w8.heap.size, 0, none⟩ = some (.int .i64 na) ∧ w'.cell? ⟨w8.heap.size, 1, none⟩ = some (.slice Aa xa.length ca) ∧ Kn w w' [(w8.heap.size, na, .slice Aa xa.length ca)] [(Aa, xa)])) (by kernel_rfl) ?_ (fun hHeld => ?_)
            · refine ⟨?_, ?_, ?_⟩ <;> (first | assumption)
            refine wpAnyH_take (i := 0) (oi := { dst := some 130, op := Op.move (Operand.tmp 15), type := 3, pos := "laws.go:253", after := #[], guard := none }) (v := ?_) rfl (by kernel_rfl) (by kernel_rfl) (by kernel_rfl) (fun _ _ _ h => h) (Or.inl ⟨by rfl, ?_⟩) (by assumption) ?_
            rotate_left
            · intro wy hSw; (try dsimp only at hSw); go_simp; (try with_reducible rfl)
            try simp only [Act.put, List.setIfInBounds_toArray, List.set_cons_zero, List.set_cons_succ]
            refine wpAnyH_take (i := 1) (oi := { dst := some 131, op := Op.load 26 (Operand.tmp 12), type := 26, pos := "laws.go:253", after := #[], guard := none }) (v := ?_) rfl (by kernel_rfl) (by kernel_rfl) (by kernel_rfl) (fun _ _ _ h => h) (Or.inl ⟨by rfl, ?_⟩) (by assumption) ?_
            rotate_left
            · intro wy hSw; (try dsimp only at hSw); go_simp; (try with_reducible rfl)
            try simp only [Act.put, List.setIfInBounds_toArray, List.set_cons_zero, List.set_cons_succ]
            refine wpAnyH_take (i := 2) (oi := { dst := some 132, op := Op.move (Operand.tmp 13), type := 3, pos := "laws.go:253", after := #[], guard := none }) (v := ?_) rfl (by kernel_rfl) (by kernel_rfl) (by kernel_rfl) (fun _ _ _ h => h) (Or.inl ⟨by rfl, ?_⟩) (by assumption) ?_
            rotate_left
            · intro wy hSw; (try dsimp only at hSw); go_simp; (try with_reducible rfl)
            try simp only [Act.put, List.setIfInBounds_toArray, List.set_cons_zero, List.set_cons_succ]
            refine wpAnyH_take (i := 3) (oi := { dst := some 133, op := Op.move (Operand.tmp 14), type := 3, pos := "laws.go:253", after := #[], guard := none }) (v := ?_) rfl (by kernel_rfl) (by kernel_rfl) (by kernel_rfl) (fun _ _ _ h => h) (Or.inl ⟨by rfl, ?_⟩) (by assumption) ?_
            rotate_left
            · intro wy hSw; (try dsimp only at hSw); go_simp; (try with_reducible rfl)
            try simp only [Act.put, List.setIfInBounds_toArray, List.set_cons_zero, List.set_cons_succ]
            refine wpAnyH_ready (rs := [4]) (by kernel_rfl) (by simp) ?_
            refine AllReadyH.cons (o := { dst := some 134, op := Op.call { callee := Callee.value (Operand.func 18), args := #[Operand.tmp 131, Operand.tmp 132, Operand.tmp 133], argTypes := #[26, 3, 3] }, type := 3, pos := "laws.go:253", after := #[{ on := 1, ground := Ground.data }, { on := 2, ground := Ground.data }, { on := 3, ground := Ground.data }], guard := none }) rfl (fun K1 hK1 => ?_) ?_
            · go_simp
              (refine (HGS.out _ ?_).mono ?_; exact Kn.list (w0 := w) (cs := [(w8.heap.size, na, .slice Aa xa.length ca)]) (ls := [(Aa, xa)]) (by assumption) 0 rfl; rintro e wq ⟨rfl, hb⟩; have hkn : Kn w wq [(w8.heap.size, na, .slice Aa xa.length ca)] [(Aa, xa)] := Kn.below (by assumption) hb; obtain ⟨c00, c01⟩ := hkn.cell 0 rfl; clear hb)
              try go_wp2_with fail
              refine hK1.out _ _ ?_ (fun hHeld => ?_)
              · (try dsimp only); (refine ⟨?_, ?_, ?_⟩ <;> (first | assumption))
              clear hK1 K1
              try simp only [Act.put, List.setIfInBounds_toArray, List.set_cons_zero, List.set_cons_succ]
              refine wpAnyH_take (i := 5) (oi := { dst := some 135, op := Op.binOp BinOp.neq 3 (Operand.tmp 130) (Operand.tmp 134) 3, type := 4, pos := "laws.go:253", after := #[{ on := 0, ground := Ground.data }, { on := 4, ground := Ground.data }], guard := none }) (v := ?_) rfl (by kernel_rfl) (by kernel_rfl) (by kernel_rfl) (fun _ _ _ h => h) (Or.inl ⟨by rfl, ?_⟩) (by assumption) ?_
              rotate_left
              · intro wy hSw; (try dsimp only at hSw); go_simp; (try with_reducible rfl)
              try simp only [Act.put, List.setIfInBounds_toArray, List.set_cons_zero, List.set_cons_succ]
              refine wpAnyH_take (i := 6) (oi := { dst := some 136, op := Op.move (Operand.tmp 135), type := 4, pos := "laws.go:253", after := #[{ on := 5, ground := Ground.data }, { on := 4, ground := Ground.chain }], guard := none }) (v := ?_) rfl (by kernel_rfl) (by kernel_rfl) (by kernel_rfl) (fun _ _ _ h => h) (Or.inl ⟨by rfl, ?_⟩) (by assumption) ?_
              rotate_left
              · intro wy hSw; (try dsimp only at hSw); go_simp; (try with_reducible rfl)
              try simp only [Act.put, List.setIfInBounds_toArray, List.set_cons_zero, List.set_cons_succ]
              refine wpAnyH_take (i := 7) (oi := { dst := some 137, op := Op.move (Operand.tmp 15), type := 3, pos := "laws.go:253", after := #[{ on := 6, ground := Ground.guard }], guard := some (6, false) }) (v := ?_) rfl (by kernel_rfl) (by kernel_rfl) (by kernel_rfl) (fun _ _ _ h => h) (Or.inl ⟨by rfl, ?_⟩) (by assumption) ?_
              rotate_left
              · intro wy hSw; (try dsimp only at hSw); go_simp; (try with_reducible rfl)
              try simp only [Act.put, List.setIfInBounds_toArray, List.set_cons_zero, List.set_cons_succ]
              refine wpAnyH_take (i := 8) (oi := { dst := some 138, op := Op.binOp BinOp.gtr 3 (Operand.tmp 137) (Operand.const (Value.int IntKind.i64 (-9999))) 3, type := 4, pos := "laws.go:253", after := #[{ on := 7, ground := Ground.data }, { on := 6, ground := Ground.guard }], guard := some (6, false) }) (v := ?_) rfl (by kernel_rfl) (by kernel_rfl) (by kernel_rfl) (fun _ _ _ h => h) (Or.inl ⟨by rfl, ?_⟩) (by assumption) ?_
              rotate_left
              · intro wy hSw; (try dsimp only at hSw); go_simp; (try with_reducible rfl)
              try simp only [Act.put, List.setIfInBounds_toArray, List.set_cons_zero, List.set_cons_succ]
              refine wpAnyH_take (i := 9) (oi := { dst := some 139, op := Op.move (Operand.tmp 138), type := 4, pos := "laws.go:253", after := #[{ on := 8, ground := Ground.data }, { on := 6, ground := Ground.chain }, { on := 6, ground := Ground.guard }], guard := some (6, false) }) (v := ?_) rfl (by kernel_rfl) (by kernel_rfl) (by kernel_rfl) (fun _ _ _ h => h) (Or.inl ⟨by rfl, ?_⟩) (by assumption) ?_
              rotate_left
              · intro wy hSw; (try dsimp only at hSw); go_simp; (try with_reducible rfl)
              try simp only [Act.put, List.setIfInBounds_toArray, List.set_cons_zero, List.set_cons_succ]
              refine wpAnyH_take (i := 10) (oi := { dst := some 140, op := Op.move (Operand.tmp 15), type := 3, pos := "laws.go:253", after := #[{ on := 9, ground := Ground.guard }], guard := some (9, true) }) (v := undef) rfl (by kernel_rfl) (by kernel_rfl) (by kernel_rfl) (fun _ _ _ h => h) (Or.inr ⟨by rfl, rfl⟩) (by assumption) ?_
              try simp only [Act.put, List.setIfInBounds_toArray, List.set_cons_zero, List.set_cons_succ]
              refine wpAnyH_take (i := 11) (oi := { dst := some 141, op := Op.load 26 (Operand.tmp 12), type := 26, pos := "laws.go:253", after := #[{ on := 9, ground := Ground.guard }], guard := some (9, true) }) (v := undef) rfl (by kernel_rfl) (by kernel_rfl) (by kernel_rfl) (fun _ _ _ h => h) (Or.inr ⟨by rfl, rfl⟩) (by assumption) ?_
              try simp only [Act.put, List.setIfInBounds_toArray, List.set_cons_zero, List.set_cons_succ]
              refine wpAnyH_take (i := 12) (oi := { dst := some 142, op := Op.move (Operand.tmp 13), type := 3, pos := "laws.go:253", after := #[{ on := 9, ground := Ground.guard }], guard := some (9, true) }) (v := undef) rfl (by kernel_rfl) (by kernel_rfl) (by kernel_rfl) (fun _ _ _ h => h) (Or.inr ⟨by rfl, rfl⟩) (by assumption) ?_
              try simp only [Act.put, List.setIfInBounds_toArray, List.set_cons_zero, List.set_cons_succ]
              refine wpAnyH_take (i := 13) (oi := { dst := some 143, op := Op.move (Operand.tmp 14), type := 3, pos := "laws.go:253", after := #[{ on := 9, ground := Ground.guard }], guard := some (9, true) }) (v := undef) rfl (by kernel_rfl) (by kernel_rfl) (by kernel_rfl) (fun _ _ _ h => h) (Or.inr ⟨by rfl, rfl⟩) (by assumption) ?_
              try simp only [Act.put, List.setIfInBounds_toArray, List.set_cons_zero, List.set_cons_succ]
              refine wpAnyH_take (i := 14) (oi := { dst := some 144, op := Op.binOp BinOp.shl 3 (Operand.const (Value.int IntKind.i64 1)) (Operand.tmp 143) 3, type := 3, pos := "laws.go:253", after := #[{ on := 13, ground := Ground.data }, { on := 9, ground := Ground.guard }], guard := some (9, true) }) (v := undef) rfl (by kernel_rfl) (by kernel_rfl) (by kernel_rfl) (fun _ _ _ h => h) (Or.inr ⟨by rfl, rfl⟩) (by assumption) ?_
              try simp only [Act.put, List.setIfInBounds_toArray, List.set_cons_zero, List.set_cons_succ]
              refine wpAnyH_take (i := 15) (oi := { dst := some 145, op := Op.binOp BinOp.or 3 (Operand.tmp 142) (Operand.tmp 144) 3, type := 3, pos := "laws.go:253", after := #[{ on := 12, ground := Ground.data }, { on := 14, ground := Ground.data }, { on := 9, ground := Ground.guard }], guard := some (9, true) }) (v := undef) rfl (by kernel_rfl) (by kernel_rfl) (by kernel_rfl) (fun _ _ _ h => h) (Or.inr ⟨by rfl, rfl⟩) (by assumption) ?_
              try simp only [Act.put, List.setIfInBounds_toArray, List.set_cons_zero, List.set_cons_succ]
              refine wpAnyH_take (i := 17) (oi := { dst := some 147, op := Op.load 26 (Operand.tmp 12), type := 26, pos := "laws.go:253", after := #[{ on := 9, ground := Ground.guard }], guard := some (9, true) }) (v := undef) rfl (by kernel_rfl) (by kernel_rfl) (by kernel_rfl) (fun _ _ _ h => h) (Or.inr ⟨by rfl, rfl⟩) (by assumption) ?_
              try simp only [Act.put, List.setIfInBounds_toArray, List.set_cons_zero, List.set_cons_succ]
              refine wpAnyH_take (i := 18) (oi := { dst := some 148, op := Op.move (Operand.tmp 13), type := 3, pos := "laws.go:253", after := #[{ on := 9, ground := Ground.guard }], guard := some (9, true) }) (v := undef) rfl (by kernel_rfl) (by kernel_rfl) (by kernel_rfl) (fun _ _ _ h => h) (Or.inr ⟨by rfl, rfl⟩) (by assumption) ?_
              try simp only [Act.put, List.setIfInBounds_toArray, List.set_cons_zero, List.set_cons_succ]
              refine wpAnyH_ready (rs := [16]) (by kernel_rfl) (by simp) ?_
              refine AllReadyH.cons (o := { dst := some 146, op := Op.call { callee := Callee.value (Operand.func 19), args := #[Operand.tmp 141, Operand.tmp 145], argTypes := #[26, 3] }, type := 3, pos := "laws.go:253", after := #[{ on := 11, ground := Ground.data }, { on := 15, ground := Ground.data }, { on := 9, ground := Ground.chain }, { on := 9, ground := Ground.guard }], guard := some (9, true) }) rfl (fun K2 hK2 => ?_) ?_
              · go_simp
                refine hK2.out _ _ ?_ (fun hHeld => ?_)
                · (try dsimp only); (assumption)
                clear hK2 K2
                try simp only [Act.put, List.setIfInBounds_toArray, List.set_cons_zero, List.set_cons_succ]
                refine wpAnyH_ready (rs := [19]) (by kernel_rfl) (by simp) ?_
                refine AllReadyH.cons (o := { dst := some 149, op := Op.call { callee := Callee.value (Operand.func 19), args := #[Operand.tmp 147, Operand.tmp 148], argTypes := #[26, 3] }, type := 3, pos := "laws.go:253", after := #[{ on := 17, ground := Ground.data }, { on := 18, ground := Ground.data }, { on := 16, ground := Ground.chain }, { on := 9, ground := Ground.guard }], guard := some (9, true) }) rfl (fun K3 hK3 => ?_) ?_
                · go_simp
                  refine hK3.out _ _ ?_ (fun hHeld => ?_)
                  · (try dsimp only); (assumption)
                  clear hK3 K3
                  try simp only [Act.put, List.setIfInBounds_toArray, List.set_cons_zero, List.set_cons_succ]
                  refine wpAnyH_take (i := 20) (oi := { dst := some 150, op := Op.binOp BinOp.sub 3 (Operand.tmp 146) (Operand.tmp 149) 3, type := 3, pos := "laws.go:253", after := #[{ on := 16, ground := Ground.data }, { on := 19, ground := Ground.data }, { on := 9, ground := Ground.guard }], guard := some (9, true) }) (v := undef) rfl (by kernel_rfl) (by kernel_rfl) (by kernel_rfl) (fun _ _ _ h => h) (Or.inr ⟨by rfl, rfl⟩) (by assumption) ?_
                  try simp only [Act.put, List.setIfInBounds_toArray, List.set_cons_zero, List.set_cons_succ]
                  refine wpAnyH_take (i := 21) (oi := { dst := some 151, op := Op.binOp BinOp.neq 3 (Operand.tmp 140) (Operand.tmp 150) 3, type := 4, pos := "laws.go:253", after := #[{ on := 10, ground := Ground.data }, { on := 20, ground := Ground.data }, { on := 9, ground := Ground.guard }], guard := some (9, true) }) (v := undef) rfl (by kernel_rfl) (by kernel_rfl) (by kernel_rfl) (fun _ _ _ h => h) (Or.inr ⟨by rfl, rfl⟩) (by assumption) ?_
                  try simp only [Act.put, List.setIfInBounds_toArray, List.set_cons_zero, List.set_cons_succ]
                  refine wpAnyH_take (i := 22) (oi := { dst := some 152, op := Op.pick (Operand.tmp 139) (Operand.tmp 151) (Operand.const (Value.bool false)), type := 4, pos := "laws.go:253", after := #[{ on := 9, ground := Ground.data }, { on := 21, ground := Ground.data }, { on := 6, ground := Ground.guard }], guard := some (6, false) }) (v := ?_) rfl (by kernel_rfl) (by kernel_rfl) (by kernel_rfl) (fun _ _ _ h => h) (Or.inl ⟨by rfl, ?_⟩) (by assumption) ?_
                  rotate_left
                  · intro wy hSw; (try dsimp only at hSw); go_simp; (try with_reducible rfl)
                  try simp only [Act.put, List.setIfInBounds_toArray, List.set_cons_zero, List.set_cons_succ]
                  refine wpAnyH_take (i := 23) (oi := { dst := some 153, op := Op.pick (Operand.tmp 136) (Operand.const (Value.bool true)) (Operand.tmp 152), type := 4, pos := "laws.go:253", after := #[{ on := 6, ground := Ground.data }, { on := 22, ground := Ground.data }], guard := none }) (v := ?_) rfl (by kernel_rfl) (by kernel_rfl) (by kernel_rfl) (fun _ _ _ h => h) (Or.inl ⟨by rfl, ?_⟩) (by assumption) ?_
                  rotate_left
                  · intro wy hSw; (try dsimp only at hSw); go_simp; (try with_reducible rfl)
                  try simp only [Act.put, List.setIfInBounds_toArray, List.set_cons_zero, List.set_cons_succ]
                  refine wpAnyH_done (by kernel_rfl) ?_ _
                  go_wp2_with fail
                  go_meet
                  exact ⟨rfl, (Kn.only (w0 := w) (cs := [(w8.heap.size, na, .slice Aa xa.length ca)]) (ls := [(Aa, xa)]) (by assumption) [] [] rfl rfl)⟩
                exact AllReadyH.nil
              exact AllReadyH.nil
            exact AllReadyH.nil
      case rest =>
        obtain ⟨rfl, hK⟩ := hcut
        have HKA := Lib.hid hK
        clear hK HK9 HGS HV1 HV2 HGV vb1 vb2 gs1 gs2 ge1 ge2
        go_wp2_with fail
        refine (scale_got a len cap _ hl (HY.out _ HKA.out.base)).mono ?_
        rintro e x1 ⟨_, nb, xb, j1, rfl, ⟨gj1, gj2⟩, ⟨Ab, cb, rfl, ho, hlb⟩, hb⟩
        have HKB := Lib.hid (((HKA.out.below hb).put ho.read).box nb (.slice Ab xb.length cb) 26)
        clear ho hb HKA
        have HC0 := Lib.hid (fun W (h1 : Ints W W.heap.size Ab xb) => scaleI_any nb Ab xb cb j1 W (Lib.hid h1))
        have HC1 := Lib.hid (fun W (h1 : Ints W W.heap.size Ab xb) => scaleS_any nb Ab xb cb j1 W (Lib.hid h1))
        have hlc := scaleFn_len nb xb j1
        obtain ⟨nc, xc, bc, hcc⟩ : ∃ n x b, scaleFn nb xb j1 = (n, x, b) := ⟨_, _, _, rfl⟩
        rw [hcc] at HC0 HC1 hlc
        clear hcc
        go_wp2_with fail
        refine (HC0.out _ (HKB.out.list 0 rfl)).mono ?_
        rintro e x2 ⟨Ac, cc, rfl, ho, hb⟩
        have HKC := Lib.hid (((HKB.out.below hb).put ho.read).box nc (.slice Ac xc.length cc) 26)
        obtain ⟨b00, b01⟩ := HKC.out.cell 1 rfl
        clear ho hb HKB
        go_wp2_with fail
        refine (HC1.out _ (HKC.out.list 1 rfl)).mono ?_
        rintro e x3 ⟨Ad, cd, rfl, ho, hb⟩
        have HKD := Lib.hid (((((HKC.out.below hb).put ho.read).box nc (.slice Ad xc.length cd) 26)).only (cs' := [(x3.heap.size, nc, .slice Ad xc.length cd), (x2.heap.size, nc, .slice Ac xc.length cc)]) (ls' := [(Ad, xc), (Ac, xc)]) [0, 1] [0, 1] rfl rfl)
        clear ho hb HKC b00 b01 HC0 HC1
        go_wp2_with fail
        refine (lower_got _ len _ hl (HY.out _ HKD.out.base)).mono ?_
        rintro e x4 ⟨_, ni, xi, rfl, ⟨Ai, ci, rfl, ho, hli⟩, hb⟩
        have HKE := Lib.hid (((HKD.out.below hb).put ho.read).box ni (.slice Ai xi.length ci) 26)
        clear ho hb HKD
        have HC0 := Lib.hid (fun W (h1 : Ints W W.heap.size Ai xi) => lowerI_any ni Ai xi ci W (Lib.hid h1))
        have HC1 := Lib.hid (fun W (h1 : Ints W W.heap.size Ai xi) => lowerS_any ni Ai xi ci W (Lib.hid h1))
        have hll := lowerFn_len ni xi
        have HLG := Lib.hid (fun h => lower_ground (n := ni) (xs := xi) h)
        obtain ⟨nl, xl, bl, hcc⟩ : ∃ n x b, lowerFn ni xi = (n, x, b) := ⟨_, _, _, rfl⟩
        rw [hcc] at HC0 HC1 hll HLG
        clear hcc
        go_wp2_with fail
        refine (HC0.out _ (HKE.out.list 0 rfl)).mono ?_
        rintro e x5 ⟨Al, cl, rfl, ho, hb⟩
        have HKF := Lib.hid (((HKE.out.below hb).put ho.read).box nl (.slice Al xl.length cl) 26)
        obtain ⟨b00, b01⟩ := HKF.out.cell 1 rfl
        clear ho hb HKE
        go_wp2_with fail
        refine (HC1.out _ (HKF.out.list 1 rfl)).mono ?_
        rintro e x6 ⟨Am, cm, rfl, ho, hb⟩
        have HKG := Lib.hid ((((HKF.out.below hb).put ho.read).box nl (.slice Am xl.length cm) 26).only (cs' := [(x6.heap.size, nl, .slice Am xl.length cm), (x5.heap.size, nl, .slice Al xl.length cl), (x3.heap.size, nc, .slice Ad xc.length cd), (x2.heap.size, nc, .slice Ac xc.length cc)]) (ls' := [(Am, xl), (Al, xl), (Ad, xc), (Ac, xc)]) [0, 1, 3, 4] [0, 1, 3, 4] rfl rfl)
        clear ho hb HKF b00 b01 HC0 HC1
        go_wp2_with fail
        refine (parse_got _ len _ hl (HY.out _ HKG.out.base)).mono ?_
        rintro e x7 ⟨T, rfl, hT, hb⟩
        have HKH := Lib.hid (HKG.out.below hb)
        clear hb HKG
        have HC0 := Lib.hid (fun W (h1 : Tab W) (h2 : MaxLenAt W) => psI_any T W (by omega) (Lib.hid h1) (Lib.hid h2))
        have HC1 := Lib.hid (fun W => psS_any T W (by omega))
        have hlu := parseFn_len T.data.toList
        obtain ⟨nu, xu, bu, hcc⟩ : ∃ n x b, parseFn T.data.toList = (n, x, b) := ⟨_, _, _, rfl⟩
        rw [hcc] at HC0 HC1 hlu
        clear hcc hT
        go_wp2_with fail
        refine (HC0.out _ HKH.out.tab HKH.out.maxLen).mono ?_
        rintro e x8 ⟨Au, cu', rfl, ho, hb⟩
        have HKI := Lib.hid (((HKH.out.below hb).put ho.read).box nu (.slice Au xu.length cu') 26)
        clear ho hb HKH
        go_wp2_with fail
        refine (HC1.out _).mono ?_
        rintro e x9 ⟨Av, cv, rfl, ho, hb⟩
        have HKJ := Lib.hid (((HKI.out.below hb).put ho.read).box nu (.slice Av xu.length cv) 26)
        clear ho hb HKI HC0 HC1
        go_wp2_with fail
        refine (equal_got _ len _ hl (HY.out _ HKJ.out.base)).mono ?_
        rintro e y1 ⟨_, no, xo, _, np, xp, rfl, ⟨Ao, co, rfl, ho, hlo⟩, ⟨Ap, cp, rfl, ho2, hlp⟩, hb⟩
        have HKK := Lib.hid ((((HKJ.out.below hb).put ho.read).put ho2.read).box no (.slice Ao xo.length co) 26 |>.box np (.slice Ap xp.length cp) 26)
        simp only [World.size_alloc] at HKK
        clear ho ho2 hb HKJ
        go_wp2_with fail
        refine (elements_got _ len _ hl (HY.out _ HKK.out.base)).mono ?_
        rintro e y2 ⟨q, z, rfl, -, hb⟩
        have HKL := Lib.hid (HKK.out.below hb)
        clear hb HKK
        go_wp2_with fail
        refine (value_got _ len _ hl (HY.out _ HKL.out.base)).mono ?_
        rintro e y3 ⟨_, ny, xy, sy, rfl, -, ⟨Ay, cy, rfl, ho, hly⟩, hb⟩
        have HKM := Lib.hid (((HKL.out.below hb).put ho.read).box ny (.slice Ay xy.length cy) 26)
        clear ho hb HKL
        have HEcd := Lib.hid (fun W (h1 : Ints W W.heap.size Ac xc) (h2 : Ints W W.heap.size Ad xc) => eqS_yes nc Ac xc cc Ad cd W (Lib.hid h1) (Lib.hid h2) (by omega))
        have HElm := Lib.hid (fun W (h1 : Ints W W.heap.size Al xl) (h2 : Ints W W.heap.size Am xl) => eqS_yes nl Al xl cl Am cm W (Lib.hid h1) (Lib.hid h2) (by omega))
        have HEuv := Lib.hid (fun W (h1 : Ints W W.heap.size Au xu) (h2 : Ints W W.heap.size Av xu) => eqS_yes nu Au xu cu' Av cv W (Lib.hid h1) (Lib.hid h2) (by omega))
        have HEi := Lib.hid (fun W (h1 : Ints W W.heap.size Ao xo) (h2 : Ints W W.heap.size Ap xp) => eqI_any no Ao xo co np Ap xp cp W (Lib.hid h1) (Lib.hid h2) (by omega))
        have HEs := Lib.hid (fun W (h1 : Ints W W.heap.size Ao xo) (h2 : Ints W W.heap.size Ap xp) => eqS_any no Ao xo co np Ap xp cp W (Lib.hid h1) (Lib.hid h2) (by omega))
        obtain ⟨eb, heb⟩ : ∃ b, eqFn no xo np xp = b := ⟨_, rfl⟩
        rw [heb] at HEi HEs
        have HLi := Lib.hid (fun W (h1 : Brujn W) => elI_any q z W (Lib.hid h1))
        have HLs := Lib.hid (fun W => elS_any q z W)
        have hel := elementsOf_len q z
        obtain ⟨es, hes⟩ : ∃ l, elementsOf q z = l := ⟨_, rfl⟩
        rw [hes] at HLi HLs hel
        have HVi := Lib.hid (fun W (h1 : Ints W W.heap.size Ay xy) => valI_any ny Ay xy cy sy W (Lib.hid h1))
        have HVs := Lib.hid (fun W (h1 : Ints W W.heap.size Ay xy) => valS_any ny Ay xy cy sy W (Lib.hid h1))
        obtain ⟨vv, hvv⟩ : ∃ v, valueOf ny xy sy = v := ⟨_, rfl⟩
        rw [hvv] at HVi HVs
        have HG := Lib.hid (fun W (h1 : Ints W W.heap.size Am xl) => groundI_any nl Am xl cm W (Lib.hid h1))
        obtain ⟨gb, hgb⟩ : ∃ b, isGround nl xl = b := ⟨_, rfl⟩
        rw [hgb] at HG HLG
        clear heb hes hvv hgb hlc hll hlu hlo hlp hly hla hlb hli
        go_upto_region 28 with (fail)
        generalize y3.alloc (.cells #[.int .i64 ny, .slice Ay xy.length cy] 26) = yw at HKM ⊢
        have hkm := HKM.out
        have hkd := hkm.drew
        obtain ⟨c00, c01⟩ := hkm.cell 0 rfl
        obtain ⟨c10, c11⟩ := hkm.cell 1 rfl
        obtain ⟨c20, c21⟩ := hkm.cell 2 rfl
        obtain ⟨c30, c31⟩ := hkm.cell 3 rfl
        obtain ⟨c40, c41⟩ := hkm.cell 4 rfl
        obtain ⟨c50, c51⟩ := hkm.cell 5 rfl
        obtain ⟨c60, c61⟩ := hkm.cell 6 rfl
        obtain ⟨c70, c71⟩ := hkm.cell 7 rfl
        obtain ⟨c80, c81⟩ := hkm.cell 8 rfl
        cases bl
        · as_aux_lemma =>
            refine wp_region_held_drew (S := (fun w' => w'.cell? ⟨y3.heap.size, 0, none⟩ = some (.int .i64 ny) ∧ w'.cell? ⟨y3.heap.size, 1, none⟩ = some (.slice Ay xy.length cy) ∧ w'.cell? ⟨y1.heap.size + 1, 0, none⟩ = some (.int .i64 np) ∧ w'.cell? ⟨y1.heap.size + 1, 1, none⟩ = some (.slice Ap xp.length cp) ∧ w'.cell? ⟨y1.heap.size, 0, none⟩ = some (.int .i64 no) ∧ w'.cell? ⟨y1.heap.size, 1, none⟩ = some (.slice Ao xo.length co) ∧ w'.cell? ⟨x9.heap.size, 0, none⟩ = some (.int .i64 nu) ∧ w'.cell? ⟨x9.heap.size, 1, none⟩ = some (.slice Av xu.length cv) ∧ w'.cell? ⟨x8.heap.size, 0, none⟩ = some (.int .i64 nu) ∧ w'.cell? ⟨x8.heap.size, 1, none⟩ = some (.slice Au xu.length cu') ∧ w'.cell? ⟨x6.heap.size, 0, none⟩ = some (.int .i64 nl) ∧ w'.cell? ⟨x6.heap.size, 1, none⟩ = some (.slice Am xl.length cm) ∧ w'.cell? ⟨x5.heap.size, 0, none⟩ = some (.int .i64 nl) ∧ w'.cell? ⟨x5.heap.size, 1, none⟩ = some (.slice Al xl.length cl) ∧ w'.cell? ⟨x3.heap.size, 0, none⟩ = some (.int .i64 nc) ∧ w'.cell? ⟨x3.heap.size, 1, none⟩ = some (.slice Ad xc.length cd) ∧ w'.cell? ⟨x2.heap.size, 0, none⟩ = some (.int .i64 nc) ∧ w'.cell? ⟨x2.heap.size, 1, none⟩ = some (.slice Ac xc.length cc) ∧ Kn w w' [(y3.heap.size, ny, .slice Ay xy.length cy), (y1.heap.size + 1, np, .slice Ap xp.length cp), (y1.heap.size, no, .slice Ao xo.length co), (x9.heap.size, nu, .slice Av xu.length cv), (x8.heap.size, nu, .slice Au xu.length cu'), (x6.heap.size, nl, .slice Am xl.length cm), (x5.heap.size, nl, .slice Al xl.length cl), (x3.heap.size, nc, .slice Ad xc.length cd), (x2.heap.size, nc, .slice Ac xc.length cc)] [(Ay, xy), (Ap, xp), (Ao, xo), (Av, xu), (Au, xu), (Am, xl), (Al, xl), (Ad, xc), (Ac, xc)])) (by kernel_rfl) ?_ (fun hHeld => ?_)
            · refine ⟨?_, ?_, ?_, ?_, ?_, ?_, ?_, ?_, ?_, ?_, ?_, ?_, ?_, ?_, ?_, ?_, ?_, ?_, ?_⟩ <;> (first | assumption)
            refine wpAnyH_take (i := 0) (oi := { dst := some 210, op := Op.move (Operand.tmp 19), type := 4, pos := "laws.go:268", after := #[], guard := none }) (v := ?_) rfl (by kernel_rfl) (by kernel_rfl) (by kernel_rfl) (fun _ _ _ h => h) (Or.inl ⟨by rfl, ?_⟩) (by assumption) ?_
            rotate_left
            · intro wy hSw; (try dsimp only at hSw); go_simp; (try with_reducible rfl)
            try simp only [Act.put, List.setIfInBounds_toArray, List.set_cons_zero, List.set_cons_succ]
            refine wpAnyH_take (i := 1) (oi := { dst := some 211, op := Op.move (Operand.tmp 21), type := 4, pos := "laws.go:268", after := #[], guard := none }) (v := ?_) rfl (by kernel_rfl) (by kernel_rfl) (by kernel_rfl) (fun _ _ _ h => h) (Or.inl ⟨by rfl, ?_⟩) (by assumption) ?_
            rotate_left
            · intro wy hSw; (try dsimp only at hSw); go_simp; (try with_reducible rfl)
            try simp only [Act.put, List.setIfInBounds_toArray, List.set_cons_zero, List.set_cons_succ]
            refine wpAnyH_take (i := 2) (oi := { dst := some 212, op := Op.binOp BinOp.eql 4 (Operand.tmp 210) (Operand.tmp 211) 4, type := 4, pos := "laws.go:268", after := #[{ on := 0, ground := Ground.data }, { on := 1, ground := Ground.data }], guard := none }) (v := ?_) rfl (by kernel_rfl) (by kernel_rfl) (by kernel_rfl) (fun _ _ _ h => h) (Or.inl ⟨by rfl, ?_⟩) (by assumption) ?_
            rotate_left
            · intro wy hSw; (try dsimp only at hSw); go_simp; (try with_reducible rfl)
            try simp only [Act.put, List.setIfInBounds_toArray, List.set_cons_zero, List.set_cons_succ]
            refine wpAnyH_take (i := 3) (oi := { dst := some 213, op := Op.move (Operand.tmp 212), type := 4, pos := "laws.go:268", after := #[{ on := 2, ground := Ground.data }], guard := none }) (v := ?_) rfl (by kernel_rfl) (by kernel_rfl) (by kernel_rfl) (fun _ _ _ h => h) (Or.inl ⟨by rfl, ?_⟩) (by assumption) ?_
            rotate_left
            · intro wy hSw; (try dsimp only at hSw); go_simp; (try with_reducible rfl)
            try simp only [Act.put, List.setIfInBounds_toArray, List.set_cons_zero, List.set_cons_succ]
            refine wpAnyH_take (i := 4) (oi := { dst := some 214, op := Op.load 26 (Operand.tmp 18), type := 26, pos := "laws.go:268", after := #[{ on := 3, ground := Ground.guard }], guard := some (3, true) }) (v := ?_) rfl (by kernel_rfl) (by kernel_rfl) (by kernel_rfl) (fun _ _ _ h => h) (Or.inl ⟨by rfl, ?_⟩) (by assumption) ?_
            rotate_left
            · intro wy hSw; (try dsimp only at hSw); go_simp; (try with_reducible rfl)
            try simp only [Act.put, List.setIfInBounds_toArray, List.set_cons_zero, List.set_cons_succ]
            refine wpAnyH_take (i := 5) (oi := { dst := some 215, op := Op.load 26 (Operand.tmp 20), type := 26, pos := "laws.go:268", after := #[{ on := 3, ground := Ground.guard }], guard := some (3, true) }) (v := ?_) rfl (by kernel_rfl) (by kernel_rfl) (by kernel_rfl) (fun _ _ _ h => h) (Or.inl ⟨by rfl, ?_⟩) (by assumption) ?_
            rotate_left
            · intro wy hSw; (try dsimp only at hSw); go_simp; (try with_reducible rfl)
            try simp only [Act.put, List.setIfInBounds_toArray, List.set_cons_zero, List.set_cons_succ]
            refine wpAnyH_ready (rs := [6]) (by kernel_rfl) (by simp) ?_
            refine AllReadyH.cons (o := { dst := some 216, op := Op.call { callee := Callee.value (Operand.func 8), args := #[Operand.tmp 214, Operand.tmp 215], argTypes := #[26, 26] }, type := 4, pos := "laws.go:268", after := #[{ on := 4, ground := Ground.data }, { on := 5, ground := Ground.data }, { on := 3, ground := Ground.chain }, { on := 3, ground := Ground.guard }], guard := some (3, true) }) rfl (fun K1 hK1 => ?_) ?_
            · go_simp
              (refine (HEcd.out _ ?_ ?_).mono ?_; exact Kn.list (w0 := w) (cs := [(y3.heap.size, ny, .slice Ay xy.length cy), (y1.heap.size + 1, np, .slice Ap xp.length cp), (y1.heap.size, no, .slice Ao xo.length co), (x9.heap.size, nu, .slice Av xu.length cv), (x8.heap.size, nu, .slice Au xu.length cu'), (x6.heap.size, nl, .slice Am xl.length cm), (x5.heap.size, nl, .slice Al xl.length cl), (x3.heap.size, nc, .slice Ad xc.length cd), (x2.heap.size, nc, .slice Ac xc.length cc)]) (ls := [(Ay, xy), (Ap, xp), (Ao, xo), (Av, xu), (Au, xu), (Am, xl), (Al, xl), (Ad, xc), (Ac, xc)]) (by assumption) 8 rfl; exact Kn.list (w0 := w) (cs := [(y3.heap.size, ny, .slice Ay xy.length cy), (y1.heap.size + 1, np, .slice Ap xp.length cp), (y1.heap.size, no, .slice Ao xo.length co), (x9.heap.size, nu, .slice Av xu.length cv), (x8.heap.size, nu, .slice Au xu.length cu'), (x6.heap.size, nl, .slice Am xl.length cm), (x5.heap.size, nl, .slice Al xl.length cl), (x3.heap.size, nc, .slice Ad xc.length cd), (x2.heap.size, nc, .slice Ac xc.length cc)]) (ls := [(Ay, xy), (Ap, xp), (Ao, xo), (Av, xu), (Au, xu), (Am, xl), (Al, xl), (Ad, xc), (Ac, xc)]) (by assumption) 7 rfl; rintro e wq ⟨rfl, hb⟩; have hkn : Kn w wq [(y3.heap.size, ny, .slice Ay xy.length cy), (y1.heap.size + 1, np, .slice Ap xp.length cp), (y1.heap.size, no, .slice Ao xo.length co), (x9.heap.size, nu, .slice Av xu.length cv), (x8.heap.size, nu, .slice Au xu.length cu'), (x6.heap.size, nl, .slice Am xl.length cm), (x5.heap.size, nl, .slice Al xl.length cl), (x3.heap.size, nc, .slice Ad xc.length cd), (x2.heap.size, nc, .slice Ac xc.length cc)] [(Ay, xy), (Ap, xp), (Ao, xo), (Av, xu), (Au, xu), (Am, xl), (Al, xl), (Ad, xc), (Ac, xc)] := Kn.below (by assumption) hb; obtain ⟨c00, c01⟩ := hkn.cell 0 rfl; obtain ⟨c10, c11⟩ := hkn.cell 1 rfl; obtain ⟨c20, c21⟩ := hkn.cell 2 rfl; obtain ⟨c30, c31⟩ := hkn.cell 3 rfl; obtain ⟨c40, c41⟩ := hkn.cell 4 rfl; obtain ⟨c50, c51⟩ := hkn.cell 5 rfl; obtain ⟨c60, c61⟩ := hkn.cell 6 rfl; obtain ⟨c70, c71⟩ := hkn.cell 7 rfl; obtain ⟨c80, c81⟩ := hkn.cell 8 rfl; clear hb)
              try go_wp2_with fail
              refine hK1.out _ _ ?_ (fun hHeld => ?_)
              · (try dsimp only); (refine ⟨?_, ?_, ?_, ?_, ?_, ?_, ?_, ?_, ?_, ?_, ?_, ?_, ?_, ?_, ?_, ?_, ?_, ?_, ?_⟩ <;> (first | assumption))
              clear hK1 K1
              try simp only [Act.put, List.setIfInBounds_toArray, List.set_cons_zero, List.set_cons_succ]
              refine wpAnyH_take (i := 7) (oi := { dst := some 217, op := Op.pick (Operand.tmp 213) (Operand.tmp 216) (Operand.const (Value.bool false)), type := 4, pos := "laws.go:268", after := #[{ on := 3, ground := Ground.data }, { on := 6, ground := Ground.data }], guard := none }) (v := ?_) rfl (by kernel_rfl) (by kernel_rfl) (by kernel_rfl) (fun _ _ _ h => h) (Or.inl ⟨by rfl, ?_⟩) (by assumption) ?_
              rotate_left
              · intro wy hSw; (try dsimp only at hSw); go_simp; (try with_reducible rfl)
              try simp only [Act.put, List.setIfInBounds_toArray, List.set_cons_zero, List.set_cons_succ]
              refine wpAnyH_take (i := 8) (oi := { dst := some 218, op := Op.move (Operand.tmp 217), type := 4, pos := "laws.go:268", after := #[{ on := 7, ground := Ground.data }, { on := 6, ground := Ground.chain }], guard := none }) (v := ?_) rfl (by kernel_rfl) (by kernel_rfl) (by kernel_rfl) (fun _ _ _ h => h) (Or.inl ⟨by rfl, ?_⟩) (by assumption) ?_
              rotate_left
              · intro wy hSw; (try dsimp only at hSw); go_simp; (try with_reducible rfl)
              try simp only [Act.put, List.setIfInBounds_toArray, List.set_cons_zero, List.set_cons_succ]
              refine wpAnyH_take (i := 9) (oi := { dst := some 219, op := Op.move (Operand.tmp 24), type := 4, pos := "laws.go:268", after := #[{ on := 8, ground := Ground.guard }], guard := some (8, true) }) (v := ?_) rfl (by kernel_rfl) (by kernel_rfl) (by kernel_rfl) (fun _ _ _ h => h) (Or.inl ⟨by rfl, ?_⟩) (by assumption) ?_
              rotate_left
              · intro wy hSw; (try dsimp only at hSw); go_simp; (try with_reducible rfl)
              try simp only [Act.put, List.setIfInBounds_toArray, List.set_cons_zero, List.set_cons_succ]
              refine wpAnyH_take (i := 10) (oi := { dst := some 220, op := Op.move (Operand.tmp 26), type := 4, pos := "laws.go:268", after := #[{ on := 8, ground := Ground.guard }], guard := some (8, true) }) (v := ?_) rfl (by kernel_rfl) (by kernel_rfl) (by kernel_rfl) (fun _ _ _ h => h) (Or.inl ⟨by rfl, ?_⟩) (by assumption) ?_
              rotate_left
              · intro wy hSw; (try dsimp only at hSw); go_simp; (try with_reducible rfl)
              try simp only [Act.put, List.setIfInBounds_toArray, List.set_cons_zero, List.set_cons_succ]
              refine wpAnyH_take (i := 11) (oi := { dst := some 221, op := Op.binOp BinOp.eql 4 (Operand.tmp 219) (Operand.tmp 220) 4, type := 4, pos := "laws.go:268", after := #[{ on := 9, ground := Ground.data }, { on := 10, ground := Ground.data }, { on := 8, ground := Ground.guard }], guard := some (8, true) }) (v := ?_) rfl (by kernel_rfl) (by kernel_rfl) (by kernel_rfl) (fun _ _ _ h => h) (Or.inl ⟨by rfl, ?_⟩) (by assumption) ?_
              rotate_left
              · intro wy hSw; (try dsimp only at hSw); go_simp; (try with_reducible rfl)
              try simp only [Act.put, List.setIfInBounds_toArray, List.set_cons_zero, List.set_cons_succ]
              refine wpAnyH_take (i := 12) (oi := { dst := some 222, op := Op.pick (Operand.tmp 218) (Operand.tmp 221) (Operand.const (Value.bool false)), type := 4, pos := "laws.go:268", after := #[{ on := 8, ground := Ground.data }, { on := 11, ground := Ground.data }], guard := none }) (v := ?_) rfl (by kernel_rfl) (by kernel_rfl) (by kernel_rfl) (fun _ _ _ h => h) (Or.inl ⟨by rfl, ?_⟩) (by assumption) ?_
              rotate_left
              · intro wy hSw; (try dsimp only at hSw); go_simp; (try with_reducible rfl)
              try simp only [Act.put, List.setIfInBounds_toArray, List.set_cons_zero, List.set_cons_succ]
              refine wpAnyH_take (i := 13) (oi := { dst := some 223, op := Op.move (Operand.tmp 222), type := 4, pos := "laws.go:268", after := #[{ on := 12, ground := Ground.data }, { on := 8, ground := Ground.chain }], guard := none }) (v := ?_) rfl (by kernel_rfl) (by kernel_rfl) (by kernel_rfl) (fun _ _ _ h => h) (Or.inl ⟨by rfl, ?_⟩) (by assumption) ?_
              rotate_left
              · intro wy hSw; (try dsimp only at hSw); go_simp; (try with_reducible rfl)
              try simp only [Act.put, List.setIfInBounds_toArray, List.set_cons_zero, List.set_cons_succ]
              refine wpAnyH_take (i := 14) (oi := { dst := some 224, op := Op.load 26 (Operand.tmp 23), type := 26, pos := "laws.go:268", after := #[{ on := 13, ground := Ground.guard }], guard := some (13, true) }) (v := ?_) rfl (by kernel_rfl) (by kernel_rfl) (by kernel_rfl) (fun _ _ _ h => h) (Or.inl ⟨by rfl, ?_⟩) (by assumption) ?_
              rotate_left
              · intro wy hSw; (try dsimp only at hSw); go_simp; (try with_reducible rfl)
              try simp only [Act.put, List.setIfInBounds_toArray, List.set_cons_zero, List.set_cons_succ]
              refine wpAnyH_take (i := 15) (oi := { dst := some 225, op := Op.load 26 (Operand.tmp 25), type := 26, pos := "laws.go:268", after := #[{ on := 13, ground := Ground.guard }], guard := some (13, true) }) (v := ?_) rfl (by kernel_rfl) (by kernel_rfl) (by kernel_rfl) (fun _ _ _ h => h) (Or.inl ⟨by rfl, ?_⟩) (by assumption) ?_
              rotate_left
              · intro wy hSw; (try dsimp only at hSw); go_simp; (try with_reducible rfl)
              try simp only [Act.put, List.setIfInBounds_toArray, List.set_cons_zero, List.set_cons_succ]
              refine wpAnyH_ready (rs := [16]) (by kernel_rfl) (by simp) ?_
              refine AllReadyH.cons (o := { dst := some 226, op := Op.call { callee := Callee.value (Operand.func 8), args := #[Operand.tmp 224, Operand.tmp 225], argTypes := #[26, 26] }, type := 4, pos := "laws.go:268", after := #[{ on := 14, ground := Ground.data }, { on := 15, ground := Ground.data }, { on := 13, ground := Ground.chain }, { on := 13, ground := Ground.guard }], guard := some (13, true) }) rfl (fun K2 hK2 => ?_) ?_
              · go_simp
                (refine (HElm.out _ ?_ ?_).mono ?_; exact Kn.list (w0 := w) (cs := [(y3.heap.size, ny, .slice Ay xy.length cy), (y1.heap.size + 1, np, .slice Ap xp.length cp), (y1.heap.size, no, .slice Ao xo.length co), (x9.heap.size, nu, .slice Av xu.length cv), (x8.heap.size, nu, .slice Au xu.length cu'), (x6.heap.size, nl, .slice Am xl.length cm), (x5.heap.size, nl, .slice Al xl.length cl), (x3.heap.size, nc, .slice Ad xc.length cd), (x2.heap.size, nc, .slice Ac xc.length cc)]) (ls := [(Ay, xy), (Ap, xp), (Ao, xo), (Av, xu), (Au, xu), (Am, xl), (Al, xl), (Ad, xc), (Ac, xc)]) (by assumption) 6 rfl; exact Kn.list (w0 := w) (cs := [(y3.heap.size, ny, .slice Ay xy.length cy), (y1.heap.size + 1, np, .slice Ap xp.length cp), (y1.heap.size, no, .slice Ao xo.length co), (x9.heap.size, nu, .slice Av xu.length cv), (x8.heap.size, nu, .slice Au xu.length cu'), (x6.heap.size, nl, .slice Am xl.length cm), (x5.heap.size, nl, .slice Al xl.length cl), (x3.heap.size, nc, .slice Ad xc.length cd), (x2.heap.size, nc, .slice Ac xc.length cc)]) (ls := [(Ay, xy), (Ap, xp), (Ao, xo), (Av, xu), (Au, xu), (Am, xl), (Al, xl), (Ad, xc), (Ac, xc)]) (by assumption) 5 rfl; rintro e wq ⟨rfl, hb⟩; have hkn : Kn w wq [(y3.heap.size, ny, .slice Ay xy.length cy), (y1.heap.size + 1, np, .slice Ap xp.length cp), (y1.heap.size, no, .slice Ao xo.length co), (x9.heap.size, nu, .slice Av xu.length cv), (x8.heap.size, nu, .slice Au xu.length cu'), (x6.heap.size, nl, .slice Am xl.length cm), (x5.heap.size, nl, .slice Al xl.length cl), (x3.heap.size, nc, .slice Ad xc.length cd), (x2.heap.size, nc, .slice Ac xc.length cc)] [(Ay, xy), (Ap, xp), (Ao, xo), (Av, xu), (Au, xu), (Am, xl), (Al, xl), (Ad, xc), (Ac, xc)] := Kn.below (by assumption) hb; obtain ⟨c00, c01⟩ := hkn.cell 0 rfl; obtain ⟨c10, c11⟩ := hkn.cell 1 rfl; obtain ⟨c20, c21⟩ := hkn.cell 2 rfl; obtain ⟨c30, c31⟩ := hkn.cell 3 rfl; obtain ⟨c40, c41⟩ := hkn.cell 4 rfl; obtain ⟨c50, c51⟩ := hkn.cell 5 rfl; obtain ⟨c60, c61⟩ := hkn.cell 6 rfl; obtain ⟨c70, c71⟩ := hkn.cell 7 rfl; obtain ⟨c80, c81⟩ := hkn.cell 8 rfl; clear hb)
                try go_wp2_with fail
                refine hK2.out _ _ ?_ (fun hHeld => ?_)
                · (try dsimp only); (refine ⟨?_, ?_, ?_, ?_, ?_, ?_, ?_, ?_, ?_, ?_, ?_, ?_, ?_, ?_, ?_, ?_, ?_, ?_, ?_⟩ <;> (first | assumption))
                clear hK2 K2
                try simp only [Act.put, List.setIfInBounds_toArray, List.set_cons_zero, List.set_cons_succ]
                refine wpAnyH_take (i := 17) (oi := { dst := some 227, op := Op.pick (Operand.tmp 223) (Operand.tmp 226) (Operand.const (Value.bool false)), type := 4, pos := "laws.go:268", after := #[{ on := 13, ground := Ground.data }, { on := 16, ground := Ground.data }], guard := none }) (v := ?_) rfl (by kernel_rfl) (by kernel_rfl) (by kernel_rfl) (fun _ _ _ h => h) (Or.inl ⟨by rfl, ?_⟩) (by assumption) ?_
                rotate_left
                · intro wy hSw; (try dsimp only at hSw); go_simp; (try with_reducible rfl)
                try simp only [Act.put, List.setIfInBounds_toArray, List.set_cons_zero, List.set_cons_succ]
                refine wpAnyH_take (i := 18) (oi := { dst := some 228, op := Op.move (Operand.tmp 227), type := 4, pos := "laws.go:268", after := #[{ on := 17, ground := Ground.data }, { on := 16, ground := Ground.chain }], guard := none }) (v := ?_) rfl (by kernel_rfl) (by kernel_rfl) (by kernel_rfl) (fun _ _ _ h => h) (Or.inl ⟨by rfl, ?_⟩) (by assumption) ?_
                rotate_left
                · intro wy hSw; (try dsimp only at hSw); go_simp; (try with_reducible rfl)
                try simp only [Act.put, List.setIfInBounds_toArray, List.set_cons_zero, List.set_cons_succ]
                refine wpAnyH_take (i := 19) (oi := { dst := some 229, op := Op.move (Operand.tmp 24), type := 4, pos := "laws.go:268", after := #[{ on := 18, ground := Ground.guard }], guard := some (18, true) }) (v := ?_) rfl (by kernel_rfl) (by kernel_rfl) (by kernel_rfl) (fun _ _ _ h => h) (Or.inl ⟨by rfl, ?_⟩) (by assumption) ?_
                rotate_left
                · intro wy hSw; (try dsimp only at hSw); go_simp; (try with_reducible rfl)
                try simp only [Act.put, List.setIfInBounds_toArray, List.set_cons_zero, List.set_cons_succ]
                refine wpAnyH_take (i := 20) (oi := { dst := some 230, op := Op.unOp UnOp.not 4 (Operand.tmp 229), type := 4, pos := "laws.go:268", after := #[{ on := 19, ground := Ground.data }, { on := 18, ground := Ground.guard }], guard := some (18, true) }) (v := ?_) rfl (by kernel_rfl) (by kernel_rfl) (by kernel_rfl) (fun _ _ _ h => h) (Or.inl ⟨by rfl, ?_⟩) (by assumption) ?_
                rotate_left
                · intro wy hSw; (try dsimp only at hSw); go_simp; (try with_reducible rfl)
                try simp only [Act.put, List.setIfInBounds_toArray, List.set_cons_zero, List.set_cons_succ]
                refine wpAnyH_take (i := 21) (oi := { dst := some 231, op := Op.move (Operand.tmp 230), type := 4, pos := "laws.go:268", after := #[{ on := 20, ground := Ground.data }, { on := 18, ground := Ground.chain }, { on := 18, ground := Ground.guard }], guard := some (18, true) }) (v := ?_) rfl (by kernel_rfl) (by kernel_rfl) (by kernel_rfl) (fun _ _ _ h => h) (Or.inl ⟨by rfl, ?_⟩) (by assumption) ?_
                rotate_left
                · intro wy hSw; (try dsimp only at hSw); go_simp; (try with_reducible rfl)
                try simp only [Act.put, List.setIfInBounds_toArray, List.set_cons_zero, List.set_cons_succ]
                refine wpAnyH_take (i := 22) (oi := { dst := some 232, op := Op.load 26 (Operand.tmp 25), type := 26, pos := "laws.go:268", after := #[{ on := 21, ground := Ground.guard }], guard := some (21, false) }) (v := undef) rfl (by kernel_rfl) (by kernel_rfl) (by kernel_rfl) (fun _ _ _ h => h) (Or.inr ⟨by rfl, rfl⟩) (by assumption) ?_
                try simp only [Act.put, List.setIfInBounds_toArray, List.set_cons_zero, List.set_cons_succ]
                refine wpAnyH_ready (rs := [23]) (by kernel_rfl) (by simp) ?_
                refine AllReadyH.cons (o := { dst := some 233, op := Op.call { callee := Callee.value (Operand.func 31), args := #[Operand.tmp 232], argTypes := #[26] }, type := 4, pos := "laws.go:268", after := #[{ on := 22, ground := Ground.data }, { on := 21, ground := Ground.chain }, { on := 21, ground := Ground.guard }], guard := some (21, false) }) rfl (fun K3 hK3 => ?_) ?_
                · go_simp
                  refine hK3.out _ _ ?_ (fun hHeld => ?_)
                  · (try dsimp only); (assumption)
                  clear hK3 K3
                  try simp only [Act.put, List.setIfInBounds_toArray, List.set_cons_zero, List.set_cons_succ]
                  refine wpAnyH_take (i := 24) (oi := { dst := some 234, op := Op.pick (Operand.tmp 231) (Operand.const (Value.bool true)) (Operand.tmp 233), type := 4, pos := "laws.go:268", after := #[{ on := 21, ground := Ground.data }, { on := 23, ground := Ground.data }, { on := 18, ground := Ground.guard }], guard := some (18, true) }) (v := ?_) rfl (by kernel_rfl) (by kernel_rfl) (by kernel_rfl) (fun _ _ _ h => h) (Or.inl ⟨by rfl, ?_⟩) (by assumption) ?_
                  rotate_left
                  · intro wy hSw; (try dsimp only at hSw); go_simp; (try with_reducible rfl)
                  try simp only [Act.put, List.setIfInBounds_toArray, List.set_cons_zero, List.set_cons_succ]
                  refine wpAnyH_take (i := 25) (oi := { dst := some 235, op := Op.pick (Operand.tmp 228) (Operand.tmp 234) (Operand.const (Value.bool false)), type := 4, pos := "laws.go:268", after := #[{ on := 18, ground := Ground.data }, { on := 24, ground := Ground.data }], guard := none }) (v := ?_) rfl (by kernel_rfl) (by kernel_rfl) (by kernel_rfl) (fun _ _ _ h => h) (Or.inl ⟨by rfl, ?_⟩) (by assumption) ?_
                  rotate_left
                  · intro wy hSw; (try dsimp only at hSw); go_simp; (try with_reducible rfl)
                  try simp only [Act.put, List.setIfInBounds_toArray, List.set_cons_zero, List.set_cons_succ]
                  refine wpAnyH_take (i := 26) (oi := { dst := some 236, op := Op.move (Operand.tmp 235), type := 4, pos := "laws.go:268", after := #[{ on := 25, ground := Ground.data }, { on := 23, ground := Ground.chain }], guard := none }) (v := ?_) rfl (by kernel_rfl) (by kernel_rfl) (by kernel_rfl) (fun _ _ _ h => h) (Or.inl ⟨by rfl, ?_⟩) (by assumption) ?_
                  rotate_left
                  · intro wy hSw; (try dsimp only at hSw); go_simp; (try with_reducible rfl)
                  try simp only [Act.put, List.setIfInBounds_toArray, List.set_cons_zero, List.set_cons_succ]
                  refine wpAnyH_take (i := 27) (oi := { dst := some 237, op := Op.move (Operand.tmp 29), type := 4, pos := "laws.go:268", after := #[{ on := 26, ground := Ground.guard }], guard := some (26, true) }) (v := ?_) rfl (by kernel_rfl) (by kernel_rfl) (by kernel_rfl) (fun _ _ _ h => h) (Or.inl ⟨by rfl, ?_⟩) (by assumption) ?_
                  rotate_left
                  · intro wy hSw; (try dsimp only at hSw); go_simp; (try with_reducible rfl)
                  try simp only [Act.put, List.setIfInBounds_toArray, List.set_cons_zero, List.set_cons_succ]
                  refine wpAnyH_take (i := 28) (oi := { dst := some 238, op := Op.move (Operand.tmp 31), type := 4, pos := "laws.go:268", after := #[{ on := 26, ground := Ground.guard }], guard := some (26, true) }) (v := ?_) rfl (by kernel_rfl) (by kernel_rfl) (by kernel_rfl) (fun _ _ _ h => h) (Or.inl ⟨by rfl, ?_⟩) (by assumption) ?_
                  rotate_left
                  · intro wy hSw; (try dsimp only at hSw); go_simp; (try with_reducible rfl)
                  try simp only [Act.put, List.setIfInBounds_toArray, List.set_cons_zero, List.set_cons_succ]
                  refine wpAnyH_take (i := 29) (oi := { dst := some 239, op := Op.binOp BinOp.eql 4 (Operand.tmp 237) (Operand.tmp 238) 4, type := 4, pos := "laws.go:268", after := #[{ on := 27, ground := Ground.data }, { on := 28, ground := Ground.data }, { on := 26, ground := Ground.guard }], guard := some (26, true) }) (v := ?_) rfl (by kernel_rfl) (by kernel_rfl) (by kernel_rfl) (fun _ _ _ h => h) (Or.inl ⟨by rfl, ?_⟩) (by assumption) ?_
                  rotate_left
                  · intro wy hSw; (try dsimp only at hSw); go_simp; (try with_reducible rfl)
                  try simp only [Act.put, List.setIfInBounds_toArray, List.set_cons_zero, List.set_cons_succ]
                  refine wpAnyH_take (i := 30) (oi := { dst := some 240, op := Op.pick (Operand.tmp 236) (Operand.tmp 239) (Operand.const (Value.bool false)), type := 4, pos := "laws.go:268", after := #[{ on := 26, ground := Ground.data }, { on := 29, ground := Ground.data }], guard := none }) (v := ?_) rfl (by kernel_rfl) (by kernel_rfl) (by kernel_rfl) (fun _ _ _ h => h) (Or.inl ⟨by rfl, ?_⟩) (by assumption) ?_
                  rotate_left
                  · intro wy hSw; (try dsimp only at hSw); go_simp; (try with_reducible rfl)
                  try simp only [Act.put, List.setIfInBounds_toArray, List.set_cons_zero, List.set_cons_succ]
                  refine wpAnyH_take (i := 31) (oi := { dst := some 241, op := Op.move (Operand.tmp 240), type := 4, pos := "laws.go:268", after := #[{ on := 30, ground := Ground.data }, { on := 26, ground := Ground.chain }], guard := none }) (v := ?_) rfl (by kernel_rfl) (by kernel_rfl) (by kernel_rfl) (fun _ _ _ h => h) (Or.inl ⟨by rfl, ?_⟩) (by assumption) ?_
                  rotate_left
                  · intro wy hSw; (try dsimp only at hSw); go_simp; (try with_reducible rfl)
                  try simp only [Act.put, List.setIfInBounds_toArray, List.set_cons_zero, List.set_cons_succ]
                  refine wpAnyH_take (i := 32) (oi := { dst := some 242, op := Op.load 26 (Operand.tmp 28), type := 26, pos := "laws.go:268", after := #[{ on := 31, ground := Ground.guard }], guard := some (31, true) }) (v := ?_) rfl (by kernel_rfl) (by kernel_rfl) (by kernel_rfl) (fun _ _ _ h => h) (Or.inl ⟨by rfl, ?_⟩) (by assumption) ?_
                  rotate_left
                  · intro wy hSw; (try dsimp only at hSw); go_simp; (try with_reducible rfl)
                  try simp only [Act.put, List.setIfInBounds_toArray, List.set_cons_zero, List.set_cons_succ]
                  refine wpAnyH_take (i := 33) (oi := { dst := some 243, op := Op.load 26 (Operand.tmp 30), type := 26, pos := "laws.go:268", after := #[{ on := 31, ground := Ground.guard }], guard := some (31, true) }) (v := ?_) rfl (by kernel_rfl) (by kernel_rfl) (by kernel_rfl) (fun _ _ _ h => h) (Or.inl ⟨by rfl, ?_⟩) (by assumption) ?_
                  rotate_left
                  · intro wy hSw; (try dsimp only at hSw); go_simp; (try with_reducible rfl)
                  try simp only [Act.put, List.setIfInBounds_toArray, List.set_cons_zero, List.set_cons_succ]
                  refine wpAnyH_ready (rs := [34]) (by kernel_rfl) (by simp) ?_
                  refine AllReadyH.cons (o := { dst := some 244, op := Op.call { callee := Callee.value (Operand.func 8), args := #[Operand.tmp 242, Operand.tmp 243], argTypes := #[26, 26] }, type := 4, pos := "laws.go:268", after := #[{ on := 32, ground := Ground.data }, { on := 33, ground := Ground.data }, { on := 31, ground := Ground.chain }, { on := 31, ground := Ground.guard }], guard := some (31, true) }) rfl (fun K4 hK4 => ?_) ?_
                  · go_simp
                    (refine (HEuv.out _ ?_ ?_).mono ?_; exact Kn.list (w0 := w) (cs := [(y3.heap.size, ny, .slice Ay xy.length cy), (y1.heap.size + 1, np, .slice Ap xp.length cp), (y1.heap.size, no, .slice Ao xo.length co), (x9.heap.size, nu, .slice Av xu.length cv), (x8.heap.size, nu, .slice Au xu.length cu'), (x6.heap.size, nl, .slice Am xl.length cm), (x5.heap.size, nl, .slice Al xl.length cl), (x3.heap.size, nc, .slice Ad xc.length cd), (x2.heap.size, nc, .slice Ac xc.length cc)]) (ls := [(Ay, xy), (Ap, xp), (Ao, xo), (Av, xu), (Au, xu), (Am, xl), (Al, xl), (Ad, xc), (Ac, xc)]) (by assumption) 4 rfl; exact Kn.list (w0 := w) (cs := [(y3.heap.size, ny, .slice Ay xy.length cy), (y1.heap.size + 1, np, .slice Ap xp.length cp), (y1.heap.size, no, .slice Ao xo.length co), (x9.heap.size, nu, .slice Av xu.length cv), (x8.heap.size, nu, .slice Au xu.length cu'), (x6.heap.size, nl, .slice Am xl.length cm), (x5.heap.size, nl, .slice Al xl.length cl), (x3.heap.size, nc, .slice Ad xc.length cd), (x2.heap.size, nc, .slice Ac xc.length cc)]) (ls := [(Ay, xy), (Ap, xp), (Ao, xo), (Av, xu), (Au, xu), (Am, xl), (Al, xl), (Ad, xc), (Ac, xc)]) (by assumption) 3 rfl; rintro e wq ⟨rfl, hb⟩; have hkn : Kn w wq [(y3.heap.size, ny, .slice Ay xy.length cy), (y1.heap.size + 1, np, .slice Ap xp.length cp), (y1.heap.size, no, .slice Ao xo.length co), (x9.heap.size, nu, .slice Av xu.length cv), (x8.heap.size, nu, .slice Au xu.length cu'), (x6.heap.size, nl, .slice Am xl.length cm), (x5.heap.size, nl, .slice Al xl.length cl), (x3.heap.size, nc, .slice Ad xc.length cd), (x2.heap.size, nc, .slice Ac xc.length cc)] [(Ay, xy), (Ap, xp), (Ao, xo), (Av, xu), (Au, xu), (Am, xl), (Al, xl), (Ad, xc), (Ac, xc)] := Kn.below (by assumption) hb; obtain ⟨c00, c01⟩ := hkn.cell 0 rfl; obtain ⟨c10, c11⟩ := hkn.cell 1 rfl; obtain ⟨c20, c21⟩ := hkn.cell 2 rfl; obtain ⟨c30, c31⟩ := hkn.cell 3 rfl; obtain ⟨c40, c41⟩ := hkn.cell 4 rfl; obtain ⟨c50, c51⟩ := hkn.cell 5 rfl; obtain ⟨c60, c61⟩ := hkn.cell 6 rfl; obtain ⟨c70, c71⟩ := hkn.cell 7 rfl; obtain ⟨c80, c81⟩ := hkn.cell 8 rfl; clear hb)
                    try go_wp2_with fail
                    refine hK4.out _ _ ?_ (fun hHeld => ?_)
                    · (try dsimp only); (refine ⟨?_, ?_, ?_, ?_, ?_, ?_, ?_, ?_, ?_, ?_, ?_, ?_, ?_, ?_, ?_, ?_, ?_, ?_, ?_⟩ <;> (first | assumption))
                    clear hK4 K4
                    try simp only [Act.put, List.setIfInBounds_toArray, List.set_cons_zero, List.set_cons_succ]
                    refine wpAnyH_take (i := 35) (oi := { dst := some 245, op := Op.pick (Operand.tmp 241) (Operand.tmp 244) (Operand.const (Value.bool false)), type := 4, pos := "laws.go:268", after := #[{ on := 31, ground := Ground.data }, { on := 34, ground := Ground.data }], guard := none }) (v := ?_) rfl (by kernel_rfl) (by kernel_rfl) (by kernel_rfl) (fun _ _ _ h => h) (Or.inl ⟨by rfl, ?_⟩) (by assumption) ?_
                    rotate_left
                    · intro wy hSw; (try dsimp only at hSw); go_simp; (try with_reducible rfl)
                    try simp only [Act.put, List.setIfInBounds_toArray, List.set_cons_zero, List.set_cons_succ]
                    refine wpAnyH_take (i := 36) (oi := { dst := some 246, op := Op.move (Operand.tmp 245), type := 4, pos := "laws.go:268", after := #[{ on := 35, ground := Ground.data }, { on := 34, ground := Ground.chain }], guard := none }) (v := ?_) rfl (by kernel_rfl) (by kernel_rfl) (by kernel_rfl) (fun _ _ _ h => h) (Or.inl ⟨by rfl, ?_⟩) (by assumption) ?_
                    rotate_left
                    · intro wy hSw; (try dsimp only at hSw); go_simp; (try with_reducible rfl)
                    try simp only [Act.put, List.setIfInBounds_toArray, List.set_cons_zero, List.set_cons_succ]
                    refine wpAnyH_take (i := 37) (oi := { dst := some 247, op := Op.load 26 (Operand.tmp 32), type := 26, pos := "laws.go:268", after := #[{ on := 36, ground := Ground.guard }], guard := some (36, true) }) (v := ?_) rfl (by kernel_rfl) (by kernel_rfl) (by kernel_rfl) (fun _ _ _ h => h) (Or.inl ⟨by rfl, ?_⟩) (by assumption) ?_
                    rotate_left
                    · intro wy hSw; (try dsimp only at hSw); go_simp; (try with_reducible rfl)
                    try simp only [Act.put, List.setIfInBounds_toArray, List.set_cons_zero, List.set_cons_succ]
                    refine wpAnyH_take (i := 38) (oi := { dst := some 248, op := Op.load 26 (Operand.tmp 33), type := 26, pos := "laws.go:268", after := #[{ on := 36, ground := Ground.guard }], guard := some (36, true) }) (v := ?_) rfl (by kernel_rfl) (by kernel_rfl) (by kernel_rfl) (fun _ _ _ h => h) (Or.inl ⟨by rfl, ?_⟩) (by assumption) ?_
                    rotate_left
                    · intro wy hSw; (try dsimp only at hSw); go_simp; (try with_reducible rfl)
                    try simp only [Act.put, List.setIfInBounds_toArray, List.set_cons_zero, List.set_cons_succ]
                    refine wpAnyH_take (i := 40) (oi := { dst := some 250, op := Op.load 26 (Operand.tmp 32), type := 26, pos := "laws.go:268", after := #[{ on := 36, ground := Ground.guard }], guard := some (36, true) }) (v := ?_) rfl (by kernel_rfl) (by kernel_rfl) (by kernel_rfl) (fun _ _ _ h => h) (Or.inl ⟨by rfl, ?_⟩) (by assumption) ?_
                    rotate_left
                    · intro wy hSw; (try dsimp only at hSw); go_simp; (try with_reducible rfl)
                    try simp only [Act.put, List.setIfInBounds_toArray, List.set_cons_zero, List.set_cons_succ]
                    refine wpAnyH_take (i := 41) (oi := { dst := some 251, op := Op.load 26 (Operand.tmp 33), type := 26, pos := "laws.go:268", after := #[{ on := 36, ground := Ground.guard }], guard := some (36, true) }) (v := ?_) rfl (by kernel_rfl) (by kernel_rfl) (by kernel_rfl) (fun _ _ _ h => h) (Or.inl ⟨by rfl, ?_⟩) (by assumption) ?_
                    rotate_left
                    · intro wy hSw; (try dsimp only at hSw); go_simp; (try with_reducible rfl)
                    try simp only [Act.put, List.setIfInBounds_toArray, List.set_cons_zero, List.set_cons_succ]
                    refine wpAnyH_ready (rs := [39]) (by kernel_rfl) (by simp) ?_
                    refine AllReadyH.cons (o := { dst := some 249, op := Op.call { callee := Callee.value (Operand.func 32), args := #[Operand.tmp 247, Operand.tmp 248], argTypes := #[26, 26] }, type := 4, pos := "laws.go:268", after := #[{ on := 37, ground := Ground.data }, { on := 38, ground := Ground.data }, { on := 36, ground := Ground.chain }, { on := 36, ground := Ground.guard }], guard := some (36, true) }) rfl (fun K5 hK5 => ?_) ?_
                    · go_simp
                      (refine (HEi.out _ ?_ ?_).mono ?_; exact Kn.list (w0 := w) (cs := [(y3.heap.size, ny, .slice Ay xy.length cy), (y1.heap.size + 1, np, .slice Ap xp.length cp), (y1.heap.size, no, .slice Ao xo.length co), (x9.heap.size, nu, .slice Av xu.length cv), (x8.heap.size, nu, .slice Au xu.length cu'), (x6.heap.size, nl, .slice Am xl.length cm), (x5.heap.size, nl, .slice Al xl.length cl), (x3.heap.size, nc, .slice Ad xc.length cd), (x2.heap.size, nc, .slice Ac xc.length cc)]) (ls := [(Ay, xy), (Ap, xp), (Ao, xo), (Av, xu), (Au, xu), (Am, xl), (Al, xl), (Ad, xc), (Ac, xc)]) (by assumption) 2 rfl; exact Kn.list (w0 := w) (cs := [(y3.heap.size, ny, .slice Ay xy.length cy), (y1.heap.size + 1, np, .slice Ap xp.length cp), (y1.heap.size, no, .slice Ao xo.length co), (x9.heap.size, nu, .slice Av xu.length cv), (x8.heap.size, nu, .slice Au xu.length cu'), (x6.heap.size, nl, .slice Am xl.length cm), (x5.heap.size, nl, .slice Al xl.length cl), (x3.heap.size, nc, .slice Ad xc.length cd), (x2.heap.size, nc, .slice Ac xc.length cc)]) (ls := [(Ay, xy), (Ap, xp), (Ao, xo), (Av, xu), (Au, xu), (Am, xl), (Al, xl), (Ad, xc), (Ac, xc)]) (by assumption) 1 rfl; rintro e wq ⟨rfl, hb⟩; have hkn : Kn w wq [(y3.heap.size, ny, .slice Ay xy.length cy), (y1.heap.size + 1, np, .slice Ap xp.length cp), (y1.heap.size, no, .slice Ao xo.length co), (x9.heap.size, nu, .slice Av xu.length cv), (x8.heap.size, nu, .slice Au xu.length cu'), (x6.heap.size, nl, .slice Am xl.length cm), (x5.heap.size, nl, .slice Al xl.length cl), (x3.heap.size, nc, .slice Ad xc.length cd), (x2.heap.size, nc, .slice Ac xc.length cc)] [(Ay, xy), (Ap, xp), (Ao, xo), (Av, xu), (Au, xu), (Am, xl), (Al, xl), (Ad, xc), (Ac, xc)] := Kn.below (by assumption) hb; obtain ⟨c00, c01⟩ := hkn.cell 0 rfl; obtain ⟨c10, c11⟩ := hkn.cell 1 rfl; obtain ⟨c20, c21⟩ := hkn.cell 2 rfl; obtain ⟨c30, c31⟩ := hkn.cell 3 rfl; obtain ⟨c40, c41⟩ := hkn.cell 4 rfl; obtain ⟨c50, c51⟩ := hkn.cell 5 rfl; obtain ⟨c60, c61⟩ := hkn.cell 6 rfl; obtain ⟨c70, c71⟩ := hkn.cell 7 rfl; obtain ⟨c80, c81⟩ := hkn.cell 8 rfl; clear hb)
                      try go_wp2_with fail
                      refine hK5.out _ _ ?_ (fun hHeld => ?_)
                      · (try dsimp only); (refine ⟨?_, ?_, ?_, ?_, ?_, ?_, ?_, ?_, ?_, ?_, ?_, ?_, ?_, ?_, ?_, ?_, ?_, ?_, ?_⟩ <;> (first | assumption))
                      clear hK5 K5
                      try simp only [Act.put, List.setIfInBounds_toArray, List.set_cons_zero, List.set_cons_succ]
                      refine wpAnyH_ready (rs := [42]) (by kernel_rfl) (by simp) ?_
                      refine AllReadyH.cons (o := { dst := some 252, op := Op.call { callee := Callee.value (Operand.func 8), args := #[Operand.tmp 250, Operand.tmp 251], argTypes := #[26, 26] }, type := 4, pos := "laws.go:268", after := #[{ on := 40, ground := Ground.data }, { on := 41, ground := Ground.data }, { on := 39, ground := Ground.chain }, { on := 36, ground := Ground.guard }], guard := some (36, true) }) rfl (fun K6 hK6 => ?_) ?_
                      · go_simp
                        (refine (HEs.out _ ?_ ?_).mono ?_; exact Kn.list (w0 := w) (cs := [(y3.heap.size, ny, .slice Ay xy.length cy), (y1.heap.size + 1, np, .slice Ap xp.length cp), (y1.heap.size, no, .slice Ao xo.length co), (x9.heap.size, nu, .slice Av xu.length cv), (x8.heap.size, nu, .slice Au xu.length cu'), (x6.heap.size, nl, .slice Am xl.length cm), (x5.heap.size, nl, .slice Al xl.length cl), (x3.heap.size, nc, .slice Ad xc.length cd), (x2.heap.size, nc, .slice Ac xc.length cc)]) (ls := [(Ay, xy), (Ap, xp), (Ao, xo), (Av, xu), (Au, xu), (Am, xl), (Al, xl), (Ad, xc), (Ac, xc)]) (by assumption) 2 rfl; exact Kn.list (w0 := w) (cs := [(y3.heap.size, ny, .slice Ay xy.length cy), (y1.heap.size + 1, np, .slice Ap xp.length cp), (y1.heap.size, no, .slice Ao xo.length co), (x9.heap.size, nu, .slice Av xu.length cv), (x8.heap.size, nu, .slice Au xu.length cu'), (x6.heap.size, nl, .slice Am xl.length cm), (x5.heap.size, nl, .slice Al xl.length cl), (x3.heap.size, nc, .slice Ad xc.length cd), (x2.heap.size, nc, .slice Ac xc.length cc)]) (ls := [(Ay, xy), (Ap, xp), (Ao, xo), (Av, xu), (Au, xu), (Am, xl), (Al, xl), (Ad, xc), (Ac, xc)]) (by assumption) 1 rfl; rintro e wq ⟨rfl, hb⟩; have hkn : Kn w wq [(y3.heap.size, ny, .slice Ay xy.length cy), (y1.heap.size + 1, np, .slice Ap xp.length cp), (y1.heap.size, no, .slice Ao xo.length co), (x9.heap.size, nu, .slice Av xu.length cv), (x8.heap.size, nu, .slice Au xu.length cu'), (x6.heap.size, nl, .slice Am xl.length cm), (x5.heap.size, nl, .slice Al xl.length cl), (x3.heap.size, nc, .slice Ad xc.length cd), (x2.heap.size, nc, .slice Ac xc.length cc)] [(Ay, xy), (Ap, xp), (Ao, xo), (Av, xu), (Au, xu), (Am, xl), (Al, xl), (Ad, xc), (Ac, xc)] := Kn.below (by assumption) hb; obtain ⟨c00, c01⟩ := hkn.cell 0 rfl; obtain ⟨c10, c11⟩ := hkn.cell 1 rfl; obtain ⟨c20, c21⟩ := hkn.cell 2 rfl; obtain ⟨c30, c31⟩ := hkn.cell 3 rfl; obtain ⟨c40, c41⟩ := hkn.cell 4 rfl; obtain ⟨c50, c51⟩ := hkn.cell 5 rfl; obtain ⟨c60, c61⟩ := hkn.cell 6 rfl; obtain ⟨c70, c71⟩ := hkn.cell 7 rfl; obtain ⟨c80, c81⟩ := hkn.cell 8 rfl; clear hb)
                        try go_wp2_with fail
                        refine hK6.out _ _ ?_ (fun hHeld => ?_)
                        · (try dsimp only); (refine ⟨?_, ?_, ?_, ?_, ?_, ?_, ?_, ?_, ?_, ?_, ?_, ?_, ?_, ?_, ?_, ?_, ?_, ?_, ?_⟩ <;> (first | assumption))
                        clear hK6 K6
                        try simp only [Act.put, List.setIfInBounds_toArray, List.set_cons_zero, List.set_cons_succ]
                        refine wpAnyH_take (i := 43) (oi := { dst := some 253, op := Op.binOp BinOp.eql 4 (Operand.tmp 249) (Operand.tmp 252) 4, type := 4, pos := "laws.go:268", after := #[{ on := 39, ground := Ground.data }, { on := 42, ground := Ground.data }, { on := 36, ground := Ground.guard }], guard := some (36, true) }) (v := ?_) rfl (by kernel_rfl) (by kernel_rfl) (by kernel_rfl) (fun _ _ _ h => h) (Or.inl ⟨by rfl, ?_⟩) (by assumption) ?_
                        rotate_left
                        · intro wy hSw; (try dsimp only at hSw); go_simp; (try with_reducible rfl)
                        try simp only [Act.put, List.setIfInBounds_toArray, List.set_cons_zero, List.set_cons_succ]
                        refine wpAnyH_take (i := 44) (oi := { dst := some 254, op := Op.pick (Operand.tmp 246) (Operand.tmp 253) (Operand.const (Value.bool false)), type := 4, pos := "laws.go:268", after := #[{ on := 36, ground := Ground.data }, { on := 43, ground := Ground.data }], guard := none }) (v := ?_) rfl (by kernel_rfl) (by kernel_rfl) (by kernel_rfl) (fun _ _ _ h => h) (Or.inl ⟨by rfl, ?_⟩) (by assumption) ?_
                        rotate_left
                        · intro wy hSw; (try dsimp only at hSw); go_simp; (try with_reducible rfl)
                        try simp only [Act.put, List.setIfInBounds_toArray, List.set_cons_zero, List.set_cons_succ]
                        refine wpAnyH_take (i := 45) (oi := { dst := some 255, op := Op.move (Operand.tmp 254), type := 4, pos := "laws.go:268", after := #[{ on := 44, ground := Ground.data }, { on := 42, ground := Ground.chain }], guard := none }) (v := ?_) rfl (by kernel_rfl) (by kernel_rfl) (by kernel_rfl) (fun _ _ _ h => h) (Or.inl ⟨by rfl, ?_⟩) (by assumption) ?_
                        rotate_left
                        · intro wy hSw; (try dsimp only at hSw); go_simp; (try with_reducible rfl)
                        try simp only [Act.put, List.setIfInBounds_toArray, List.set_cons_zero, List.set_cons_succ]
                        refine wpAnyH_take (i := 46) (oi := { dst := some 256, op := Op.move (Operand.tmp 34), type := 3, pos := "laws.go:268", after := #[{ on := 45, ground := Ground.guard }], guard := some (45, true) }) (v := ?_) rfl (by kernel_rfl) (by kernel_rfl) (by kernel_rfl) (fun _ _ _ h => h) (Or.inl ⟨by rfl, ?_⟩) (by assumption) ?_
                        rotate_left
                        · intro wy hSw; (try dsimp only at hSw); go_simp; (try with_reducible rfl)
                        try simp only [Act.put, List.setIfInBounds_toArray, List.set_cons_zero, List.set_cons_succ]
                        refine wpAnyH_take (i := 47) (oi := { dst := some 257, op := Op.move (Operand.tmp 35), type := 3, pos := "laws.go:268", after := #[{ on := 45, ground := Ground.guard }], guard := some (45, true) }) (v := ?_) rfl (by kernel_rfl) (by kernel_rfl) (by kernel_rfl) (fun _ _ _ h => h) (Or.inl ⟨by rfl, ?_⟩) (by assumption) ?_
                        rotate_left
                        · intro wy hSw; (try dsimp only at hSw); go_simp; (try with_reducible rfl)
                        try simp only [Act.put, List.setIfInBounds_toArray, List.set_cons_zero, List.set_cons_succ]
                        refine wpAnyH_take (i := 49) (oi := { dst := some 259, op := Op.move (Operand.tmp 34), type := 3, pos := "laws.go:268", after := #[{ on := 45, ground := Ground.guard }], guard := some (45, true) }) (v := ?_) rfl (by kernel_rfl) (by kernel_rfl) (by kernel_rfl) (fun _ _ _ h => h) (Or.inl ⟨by rfl, ?_⟩) (by assumption) ?_
                        rotate_left
                        · intro wy hSw; (try dsimp only at hSw); go_simp; (try with_reducible rfl)
                        try simp only [Act.put, List.setIfInBounds_toArray, List.set_cons_zero, List.set_cons_succ]
                        refine wpAnyH_take (i := 50) (oi := { dst := some 260, op := Op.move (Operand.tmp 35), type := 3, pos := "laws.go:268", after := #[{ on := 45, ground := Ground.guard }], guard := some (45, true) }) (v := ?_) rfl (by kernel_rfl) (by kernel_rfl) (by kernel_rfl) (fun _ _ _ h => h) (Or.inl ⟨by rfl, ?_⟩) (by assumption) ?_
                        rotate_left
                        · intro wy hSw; (try dsimp only at hSw); go_simp; (try with_reducible rfl)
                        try simp only [Act.put, List.setIfInBounds_toArray, List.set_cons_zero, List.set_cons_succ]
                        refine wpAnyH_ready (rs := [48]) (by kernel_rfl) (by simp) ?_
                        refine AllReadyH.cons (o := { dst := some 258, op := Op.call { callee := Callee.value (Operand.func 34), args := #[Operand.tmp 256, Operand.tmp 257], argTypes := #[3, 3] }, type := 24, pos := "laws.go:268", after := #[{ on := 46, ground := Ground.data }, { on := 47, ground := Ground.data }, { on := 45, ground := Ground.chain }, { on := 45, ground := Ground.guard }], guard := some (45, true) }) rfl (fun K7 hK7 => ?_) ?_
                        · go_simp
                          (refine (HLi.out _ ?_).mono ?_; exact Kn.brujn (w0 := w) (cs := [(y3.heap.size, ny, .slice Ay xy.length cy), (y1.heap.size + 1, np, .slice Ap xp.length cp), (y1.heap.size, no, .slice Ao xo.length co), (x9.heap.size, nu, .slice Av xu.length cv), (x8.heap.size, nu, .slice Au xu.length cu'), (x6.heap.size, nl, .slice Am xl.length cm), (x5.heap.size, nl, .slice Al xl.length cl), (x3.heap.size, nc, .slice Ad xc.length cd), (x2.heap.size, nc, .slice Ac xc.length cc)]) (ls := [(Ay, xy), (Ap, xp), (Ao, xo), (Av, xu), (Au, xu), (Am, xl), (Al, xl), (Ad, xc), (Ac, xc)]) (by assumption); rintro e wE ⟨A1, c1, rfl, ho1, hb⟩; have hkn : Kn w wE [(y3.heap.size, ny, .slice Ay xy.length cy), (y1.heap.size + 1, np, .slice Ap xp.length cp), (y1.heap.size, no, .slice Ao xo.length co), (x9.heap.size, nu, .slice Av xu.length cv), (x8.heap.size, nu, .slice Au xu.length cu'), (x6.heap.size, nl, .slice Am xl.length cm), (x5.heap.size, nl, .slice Al xl.length cl), (x3.heap.size, nc, .slice Ad xc.length cd), (x2.heap.size, nc, .slice Ac xc.length cc)] [(Ay, xy), (Ap, xp), (Ao, xo), (Av, xu), (Au, xu), (Am, xl), (Al, xl), (Ad, xc), (Ac, xc)] := Kn.below (by assumption) hb; obtain ⟨c00, c01⟩ := hkn.cell 0 rfl; obtain ⟨c10, c11⟩ := hkn.cell 1 rfl; obtain ⟨c20, c21⟩ := hkn.cell 2 rfl; obtain ⟨c30, c31⟩ := hkn.cell 3 rfl; obtain ⟨c40, c41⟩ := hkn.cell 4 rfl; obtain ⟨c50, c51⟩ := hkn.cell 5 rfl; obtain ⟨c60, c61⟩ := hkn.cell 6 rfl; obtain ⟨c70, c71⟩ := hkn.cell 7 rfl; obtain ⟨c80, c81⟩ := hkn.cell 8 rfl; have hI1 := ho1.read; clear hb ho1)
                          try go_wp2_with fail
                          refine hK7.out _ _ ?_ (fun hHeld => ?_)
                          · (try dsimp only); (refine ⟨?_, ?_, ?_, ?_, ?_, ?_, ?_, ?_, ?_, ?_, ?_, ?_, ?_, ?_, ?_, ?_, ?_, ?_, ?_⟩ <;> (first | assumption))
                          clear hK7 K7
                          try simp only [Act.put, List.setIfInBounds_toArray, List.set_cons_zero, List.set_cons_succ]
                          refine wpAnyH_ready (rs := [51]) (by kernel_rfl) (by simp) ?_
                          refine AllReadyH.cons (o := { dst := some 261, op := Op.call { callee := Callee.value (Operand.func 35), args := #[Operand.tmp 259, Operand.tmp 260], argTypes := #[3, 3] }, type := 24, pos := "laws.go:268", after := #[{ on := 49, ground := Ground.data }, { on := 50, ground := Ground.data }, { on := 48, ground := Ground.chain }, { on := 45, ground := Ground.guard }], guard := some (45, true) }) rfl (fun K8 hK8 => ?_) ?_
                          · go_simp
                            (refine (HLs.out _).mono ?_; rintro e wF ⟨A2, c2, rfl, ho2, hb⟩; have hkn : Kn w wF [(y3.heap.size, ny, .slice Ay xy.length cy), (y1.heap.size + 1, np, .slice Ap xp.length cp), (y1.heap.size, no, .slice Ao xo.length co), (x9.heap.size, nu, .slice Av xu.length cv), (x8.heap.size, nu, .slice Au xu.length cu'), (x6.heap.size, nl, .slice Am xl.length cm), (x5.heap.size, nl, .slice Al xl.length cl), (x3.heap.size, nc, .slice Ad xc.length cd), (x2.heap.size, nc, .slice Ac xc.length cc)] [(Ay, xy), (Ap, xp), (Ao, xo), (Av, xu), (Au, xu), (Am, xl), (Al, xl), (Ad, xc), (Ac, xc)] := Kn.below (by assumption) hb; obtain ⟨c00, c01⟩ := hkn.cell 0 rfl; obtain ⟨c10, c11⟩ := hkn.cell 1 rfl; obtain ⟨c20, c21⟩ := hkn.cell 2 rfl; obtain ⟨c30, c31⟩ := hkn.cell 3 rfl; obtain ⟨c40, c41⟩ := hkn.cell 4 rfl; obtain ⟨c50, c51⟩ := hkn.cell 5 rfl; obtain ⟨c60, c61⟩ := hkn.cell 6 rfl; obtain ⟨c70, c71⟩ := hkn.cell 7 rfl; obtain ⟨c80, c81⟩ := hkn.cell 8 rfl; have hI2 := ho2.read; have hI3 := (hI1.below hb).mono hb.size; clear hb ho2 hI1)
                            try go_wp2_with fail
                            refine hK8.out _ _ ?_ (fun hHeld => ?_)
                            · (try dsimp only); (refine ⟨?_, ?_, ?_, ?_, ?_, ?_, ?_, ?_, ?_, ?_, ?_, ?_, ?_, ?_, ?_, ?_, ?_, ?_, ?_⟩ <;> (first | assumption))
                            clear hK8 K8
                            try simp only [Act.put, List.setIfInBounds_toArray, List.set_cons_zero, List.set_cons_succ]
                            refine wpAnyH_ready (rs := [52]) (by kernel_rfl) (by simp) ?_
                            refine AllReadyH.cons (o := { dst := some 262, op := Op.call { callee := Callee.value (Operand.func 33), args := #[Operand.tmp 258, Operand.tmp 261], argTypes := #[24, 24] }, type := 4, pos := "laws.go:268", after := #[{ on := 48, ground := Ground.data }, { on := 51, ground := Ground.data }, { on := 51, ground := Ground.chain }, { on := 45, ground := Ground.guard }], guard := some (45, true) }) rfl (fun K9 hK9 => ?_) ?_
                            · go_simp
                              (refine (sameInts_same A1 A2 es c1 c2 _ (Lib.hid hI3) (Lib.hid hI2) (by omega)).mono ?_; rintro e wG ⟨rfl, hq⟩; have hkn : Kn w wG [(y3.heap.size, ny, .slice Ay xy.length cy), (y1.heap.size + 1, np, .slice Ap xp.length cp), (y1.heap.size, no, .slice Ao xo.length co), (x9.heap.size, nu, .slice Av xu.length cv), (x8.heap.size, nu, .slice Au xu.length cu'), (x6.heap.size, nl, .slice Am xl.length cm), (x5.heap.size, nl, .slice Al xl.length cl), (x3.heap.size, nc, .slice Ad xc.length cd), (x2.heap.size, nc, .slice Ac xc.length cc)] [(Ay, xy), (Ap, xp), (Ao, xo), (Av, xu), (Au, xu), (Am, xl), (Al, xl), (Ad, xc), (Ac, xc)] := (by obtain ⟨qn, rfl⟩ := hq; exact Kn.drewN (by assumption) qn); obtain ⟨c00, c01⟩ := hkn.cell 0 rfl; obtain ⟨c10, c11⟩ := hkn.cell 1 rfl; obtain ⟨c20, c21⟩ := hkn.cell 2 rfl; obtain ⟨c30, c31⟩ := hkn.cell 3 rfl; obtain ⟨c40, c41⟩ := hkn.cell 4 rfl; obtain ⟨c50, c51⟩ := hkn.cell 5 rfl; obtain ⟨c60, c61⟩ := hkn.cell 6 rfl; obtain ⟨c70, c71⟩ := hkn.cell 7 rfl; obtain ⟨c80, c81⟩ := hkn.cell 8 rfl; clear hq)
                              try go_wp2_with fail
                              refine hK9.out _ _ ?_ (fun hHeld => ?_)
                              · (try dsimp only); (refine ⟨?_, ?_, ?_, ?_, ?_, ?_, ?_, ?_, ?_, ?_, ?_, ?_, ?_, ?_, ?_, ?_, ?_, ?_, ?_⟩ <;> (first | assumption))
                              clear hK9 K9
                              try simp only [Act.put, List.setIfInBounds_toArray, List.set_cons_zero, List.set_cons_succ]
                              refine wpAnyH_take (i := 53) (oi := { dst := some 263, op := Op.pick (Operand.tmp 255) (Operand.tmp 262) (Operand.const (Value.bool false)), type := 4, pos := "laws.go:268", after := #[{ on := 45, ground := Ground.data }, { on := 52, ground := Ground.data }], guard := none }) (v := ?_) rfl (by kernel_rfl) (by kernel_rfl) (by kernel_rfl) (fun _ _ _ h => h) (Or.inl ⟨by rfl, ?_⟩) (by assumption) ?_
                              rotate_left
                              · intro wy hSw; (try dsimp only at hSw); go_simp; (try with_reducible rfl)
                              try simp only [Act.put, List.setIfInBounds_toArray, List.set_cons_zero, List.set_cons_succ]
                              refine wpAnyH_take (i := 54) (oi := { dst := some 264, op := Op.move (Operand.tmp 263), type := 4, pos := "laws.go:268", after := #[{ on := 53, ground := Ground.data }, { on := 52, ground := Ground.chain }], guard := none }) (v := ?_) rfl (by kernel_rfl) (by kernel_rfl) (by kernel_rfl) (fun _ _ _ h => h) (Or.inl ⟨by rfl, ?_⟩) (by assumption) ?_
                              rotate_left
                              · intro wy hSw; (try dsimp only at hSw); go_simp; (try with_reducible rfl)
                              try simp only [Act.put, List.setIfInBounds_toArray, List.set_cons_zero, List.set_cons_succ]
                              refine wpAnyH_take (i := 55) (oi := { dst := some 265, op := Op.load 26 (Operand.tmp 36), type := 26, pos := "laws.go:268", after := #[{ on := 54, ground := Ground.guard }], guard := some (54, true) }) (v := ?_) rfl (by kernel_rfl) (by kernel_rfl) (by kernel_rfl) (fun _ _ _ h => h) (Or.inl ⟨by rfl, ?_⟩) (by assumption) ?_
                              rotate_left
                              · intro wy hSw; (try dsimp only at hSw); go_simp; (try with_reducible rfl)
                              try simp only [Act.put, List.setIfInBounds_toArray, List.set_cons_zero, List.set_cons_succ]
                              refine wpAnyH_take (i := 56) (oi := { dst := some 266, op := Op.move (Operand.tmp 37), type := 3, pos := "laws.go:268", after := #[{ on := 54, ground := Ground.guard }], guard := some (54, true) }) (v := ?_) rfl (by kernel_rfl) (by kernel_rfl) (by kernel_rfl) (fun _ _ _ h => h) (Or.inl ⟨by rfl, ?_⟩) (by assumption) ?_
                              rotate_left
                              · intro wy hSw; (try dsimp only at hSw); go_simp; (try with_reducible rfl)
                              try simp only [Act.put, List.setIfInBounds_toArray, List.set_cons_zero, List.set_cons_succ]
                              refine wpAnyH_take (i := 58) (oi := { dst := some 268, op := Op.load 26 (Operand.tmp 36), type := 26, pos := "laws.go:268", after := #[{ on := 54, ground := Ground.guard }], guard := some (54, true) }) (v := ?_) rfl (by kernel_rfl) (by kernel_rfl) (by kernel_rfl) (fun _ _ _ h => h) (Or.inl ⟨by rfl, ?_⟩) (by assumption) ?_
                              rotate_left
                              · intro wy hSw; (try dsimp only at hSw); go_simp; (try with_reducible rfl)
                              try simp only [Act.put, List.setIfInBounds_toArray, List.set_cons_zero, List.set_cons_succ]
                              refine wpAnyH_take (i := 59) (oi := { dst := some 269, op := Op.move (Operand.tmp 37), type := 3, pos := "laws.go:268", after := #[{ on := 54, ground := Ground.guard }], guard := some (54, true) }) (v := ?_) rfl (by kernel_rfl) (by kernel_rfl) (by kernel_rfl) (fun _ _ _ h => h) (Or.inl ⟨by rfl, ?_⟩) (by assumption) ?_
                              rotate_left
                              · intro wy hSw; (try dsimp only at hSw); go_simp; (try with_reducible rfl)
                              try simp only [Act.put, List.setIfInBounds_toArray, List.set_cons_zero, List.set_cons_succ]
                              refine wpAnyH_ready (rs := [57]) (by kernel_rfl) (by simp) ?_
                              refine AllReadyH.cons (o := { dst := some 267, op := Op.call { callee := Callee.value (Operand.func 19), args := #[Operand.tmp 265, Operand.tmp 266], argTypes := #[26, 3] }, type := 3, pos := "laws.go:268", after := #[{ on := 55, ground := Ground.data }, { on := 56, ground := Ground.data }, { on := 54, ground := Ground.chain }, { on := 54, ground := Ground.guard }], guard := some (54, true) }) rfl (fun K10 hK10 => ?_) ?_
                              · go_simp
                                (refine (HVi.out _ ?_).mono ?_; exact Kn.list (w0 := w) (cs := [(y3.heap.size, ny, .slice Ay xy.length cy), (y1.heap.size + 1, np, .slice Ap xp.length cp), (y1.heap.size, no, .slice Ao xo.length co), (x9.heap.size, nu, .slice Av xu.length cv), (x8.heap.size, nu, .slice Au xu.length cu'), (x6.heap.size, nl, .slice Am xl.length cm), (x5.heap.size, nl, .slice Al xl.length cl), (x3.heap.size, nc, .slice Ad xc.length cd), (x2.heap.size, nc, .slice Ac xc.length cc)]) (ls := [(Ay, xy), (Ap, xp), (Ao, xo), (Av, xu), (Au, xu), (Am, xl), (Al, xl), (Ad, xc), (Ac, xc)]) (by assumption) 0 rfl; rintro e wq ⟨rfl, hb⟩; have hkn : Kn w wq [(y3.heap.size, ny, .slice Ay xy.length cy), (y1.heap.size + 1, np, .slice Ap xp.length cp), (y1.heap.size, no, .slice Ao xo.length co), (x9.heap.size, nu, .slice Av xu.length cv), (x8.heap.size, nu, .slice Au xu.length cu'), (x6.heap.size, nl, .slice Am xl.length cm), (x5.heap.size, nl, .slice Al xl.length cl), (x3.heap.size, nc, .slice Ad xc.length cd), (x2.heap.size, nc, .slice Ac xc.length cc)] [(Ay, xy), (Ap, xp), (Ao, xo), (Av, xu), (Au, xu), (Am, xl), (Al, xl), (Ad, xc), (Ac, xc)] := Kn.below (by assumption) hb; obtain ⟨c00, c01⟩ := hkn.cell 0 rfl; obtain ⟨c10, c11⟩ := hkn.cell 1 rfl; obtain ⟨c20, c21⟩ := hkn.cell 2 rfl; obtain ⟨c30, c31⟩ := hkn.cell 3 rfl; obtain ⟨c40, c41⟩ := hkn.cell 4 rfl; obtain ⟨c50, c51⟩ := hkn.cell 5 rfl; obtain ⟨c60, c61⟩ := hkn.cell 6 rfl; obtain ⟨c70, c71⟩ := hkn.cell 7 rfl; obtain ⟨c80, c81⟩ := hkn.cell 8 rfl; clear hb)
                                try go_wp2_with fail
                                refine hK10.out _ _ ?_ (fun hHeld => ?_)
                                · (try dsimp only); (refine ⟨?_, ?_, ?_, ?_, ?_, ?_, ?_, ?_, ?_, ?_, ?_, ?_, ?_, ?_, ?_, ?_, ?_, ?_, ?_⟩ <;> (first | assumption))
                                clear hK10 K10
                                try simp only [Act.put, List.setIfInBounds_toArray, List.set_cons_zero, List.set_cons_succ]
                                refine wpAnyH_ready (rs := [60]) (by kernel_rfl) (by simp) ?_
                                refine AllReadyH.cons (o := { dst := some 270, op := Op.call { callee := Callee.value (Operand.func 36), args := #[Operand.tmp 268, Operand.tmp 269], argTypes := #[26, 3] }, type := 3, pos := "laws.go:268", after := #[{ on := 58, ground := Ground.data }, { on := 59, ground := Ground.data }, { on := 57, ground := Ground.chain }, { on := 54, ground := Ground.guard }], guard := some (54, true) }) rfl (fun K11 hK11 => ?_) ?_
                                · go_simp
                                  (refine (HVs.out _ ?_).mono ?_; exact Kn.list (w0 := w) (cs := [(y3.heap.size, ny, .slice Ay xy.length cy), (y1.heap.size + 1, np, .slice Ap xp.length cp), (y1.heap.size, no, .slice Ao xo.length co), (x9.heap.size, nu, .slice Av xu.length cv), (x8.heap.size, nu, .slice Au xu.length cu'), (x6.heap.size, nl, .slice Am xl.length cm), (x5.heap.size, nl, .slice Al xl.length cl), (x3.heap.size, nc, .slice Ad xc.length cd), (x2.heap.size, nc, .slice Ac xc.length cc)]) (ls := [(Ay, xy), (Ap, xp), (Ao, xo), (Av, xu), (Au, xu), (Am, xl), (Al, xl), (Ad, xc), (Ac, xc)]) (by assumption) 0 rfl; rintro e wq ⟨rfl, hb⟩; have hkn : Kn w wq [(y3.heap.size, ny, .slice Ay xy.length cy), (y1.heap.size + 1, np, .slice Ap xp.length cp), (y1.heap.size, no, .slice Ao xo.length co), (x9.heap.size, nu, .slice Av xu.length cv), (x8.heap.size, nu, .slice Au xu.length cu'), (x6.heap.size, nl, .slice Am xl.length cm), (x5.heap.size, nl, .slice Al xl.length cl), (x3.heap.size, nc, .slice Ad xc.length cd), (x2.heap.size, nc, .slice Ac xc.length cc)] [(Ay, xy), (Ap, xp), (Ao, xo), (Av, xu), (Au, xu), (Am, xl), (Al, xl), (Ad, xc), (Ac, xc)] := Kn.below (by assumption) hb; obtain ⟨c00, c01⟩ := hkn.cell 0 rfl; obtain ⟨c10, c11⟩ := hkn.cell 1 rfl; obtain ⟨c20, c21⟩ := hkn.cell 2 rfl; obtain ⟨c30, c31⟩ := hkn.cell 3 rfl; obtain ⟨c40, c41⟩ := hkn.cell 4 rfl; obtain ⟨c50, c51⟩ := hkn.cell 5 rfl; obtain ⟨c60, c61⟩ := hkn.cell 6 rfl; obtain ⟨c70, c71⟩ := hkn.cell 7 rfl; obtain ⟨c80, c81⟩ := hkn.cell 8 rfl; clear hb)
                                  try go_wp2_with fail
                                  refine hK11.out _ _ ?_ (fun hHeld => ?_)
                                  · (try dsimp only); (refine ⟨?_, ?_, ?_, ?_, ?_, ?_, ?_, ?_, ?_, ?_, ?_, ?_, ?_, ?_, ?_, ?_, ?_, ?_, ?_⟩ <;> (first | assumption))
                                  clear hK11 K11
                                  try simp only [Act.put, List.setIfInBounds_toArray, List.set_cons_zero, List.set_cons_succ]
                                  refine wpAnyH_take (i := 61) (oi := { dst := some 271, op := Op.binOp BinOp.eql 3 (Operand.tmp 267) (Operand.tmp 270) 3, type := 4, pos := "laws.go:268", after := #[{ on := 57, ground := Ground.data }, { on := 60, ground := Ground.data }, { on := 54, ground := Ground.guard }], guard := some (54, true) }) (v := ?_) rfl (by kernel_rfl) (by kernel_rfl) (by kernel_rfl) (fun _ _ _ h => h) (Or.inl ⟨by rfl, ?_⟩) (by assumption) ?_
                                  rotate_left
                                  · intro wy hSw; (try dsimp only at hSw); go_simp; (try with_reducible rfl)
                                  try simp only [Act.put, List.setIfInBounds_toArray, List.set_cons_zero, List.set_cons_succ]
                                  refine wpAnyH_take (i := 62) (oi := { dst := some 272, op := Op.pick (Operand.tmp 264) (Operand.tmp 271) (Operand.const (Value.bool false)), type := 4, pos := "laws.go:268", after := #[{ on := 54, ground := Ground.data }, { on := 61, ground := Ground.data }], guard := none }) (v := ?_) rfl (by kernel_rfl) (by kernel_rfl) (by kernel_rfl) (fun _ _ _ h => h) (Or.inl ⟨by rfl, ?_⟩) (by assumption) ?_
                                  rotate_left
                                  · intro wy hSw; (try dsimp only at hSw); go_simp; (try with_reducible rfl)
                                  try simp only [Act.put, List.setIfInBounds_toArray, List.set_cons_zero, List.set_cons_succ]
                                  refine wpAnyH_take (i := 63) (oi := { dst := some 2, op := Op.assign (Operand.tmp 272), type := 4, pos := "laws.go:268", after := ([{ on := 62, ground := Ground.data }, { on := 60, ground := Ground.chain }, { on := 0, ground := Ground.phase }, { on := 1, ground := Ground.phase }, { on := 2, ground := Ground.phase }, { on := 3, ground := Ground.phase }, { on := 4, ground := Ground.phase }, { on := 5, ground := Ground.phase }, { on := 6, ground := Ground.phase }, { on := 7, ground := Ground.phase }, { on := 8, ground := Ground.phase }, { on := 9, ground := Ground.phase }, { on := 10, ground := Ground.phase }, { on := 11, ground := Ground.phase }, { on := 12, ground := Ground.phase }, { on := 13, ground := Ground.phase }, { on := 14, ground := Ground.phase }, { on := 15, ground := Ground.phase }, { on := 16, ground := Ground.phase }, { on := 17, ground := Ground.phase }, { on := 18, ground := Ground.phase }, { on := 19, ground := Ground.phase }, { on := 20, ground := Ground.phase }, { on := 21, ground := Ground.phase }, { on := 22, ground := Ground.phase }, { on := 23, ground := Ground.phase }, { on := 24, ground := Ground.phase }, { on := 25, ground := Ground.phase }, { on := 26, ground := Ground.phase }, { on := 27, ground := Ground.phase }, { on := 28, ground := Ground.phase }, { on := 29, ground := Ground.phase }].append [{ on := 30, ground := Ground.phase }, { on := 31, ground := Ground.phase }, { on := 32, ground := Ground.phase }, { on := 33, ground := Ground.phase }, { on := 34, ground := Ground.phase }, { on := 35, ground := Ground.phase }, { on := 36, ground := Ground.phase }, { on := 37, ground := Ground.phase }, { on := 38, ground := Ground.phase }, { on := 39, ground := Ground.phase }, { on := 40, ground := Ground.phase }, { on := 41, ground := Ground.phase }, { on := 42, ground := Ground.phase }, { on := 43, ground := Ground.phase }, { on := 44, ground := Ground.phase }, { on := 45, ground := Ground.phase }, { on := 46, ground := Ground.phase }, { on := 47, ground := Ground.phase }, { on := 48, ground := Ground.phase }, { on := 49, ground := Ground.phase }, { on := 50, ground := Ground.phase }, { on := 51, ground := Ground.phase }, { on := 52, ground := Ground.phase }, { on := 53, ground := Ground.phase }, { on := 54, ground := Ground.phase }, { on := 55, ground := Ground.phase }, { on := 56, ground := Ground.phase }, { on := 57, ground := Ground.phase }, { on := 58, ground := Ground.phase }, { on := 59, ground := Ground.phase }, { on := 60, ground := Ground.phase }, { on := 61, ground := Ground.phase }, { on := 62, ground := Ground.phase }]).toArray, guard := none }) (v := ?_) rfl (by kernel_rfl) (by kernel_rfl) (by kernel_rfl) (fun _ _ _ h => h) (Or.inl ⟨by rfl, ?_⟩) (by assumption) ?_
                                  rotate_left
                                  · intro wy hSw; (try dsimp only at hSw); go_simp; (try with_reducible rfl)
                                  try simp only [Act.put, List.setIfInBounds_toArray, List.set_cons_zero, List.set_cons_succ]
                                  refine wpAnyH_done (by kernel_rfl) ?_ _
                                  go_wp2_with fail
                                  go_ret
                                  exact ⟨rfl, Kn.base (w0 := w) (cs := [(y3.heap.size, ny, .slice Ay xy.length cy), (y1.heap.size + 1, np, .slice Ap xp.length cp), (y1.heap.size, no, .slice Ao xo.length co), (x9.heap.size, nu, .slice Av xu.length cv), (x8.heap.size, nu, .slice Au xu.length cu'), (x6.heap.size, nl, .slice Am xl.length cm), (x5.heap.size, nl, .slice Al xl.length cl), (x3.heap.size, nc, .slice Ad xc.length cd), (x2.heap.size, nc, .slice Ac xc.length cc)]) (ls := [(Ay, xy), (Ap, xp), (Ao, xo), (Av, xu), (Au, xu), (Am, xl), (Al, xl), (Ad, xc), (Ac, xc)]) (by assumption)⟩
                                exact AllReadyH.nil
                              exact AllReadyH.nil
                            exact AllReadyH.nil
                          exact AllReadyH.nil
                        exact AllReadyH.nil
                      exact AllReadyH.nil
                    exact AllReadyH.nil
                  exact AllReadyH.nil
                exact AllReadyH.nil
              exact AllReadyH.nil
            exact AllReadyH.nil
        · obtain rfl : gb = true := HLG.out rfl
          as_aux_lemma =>
            refine wp_region_held_drew (S := (fun w' => w'.cell? ⟨y3.heap.size, 0, none⟩ = some (.int .i64 ny) ∧ w'.cell? ⟨y3.heap.size, 1, none⟩ = some (.slice Ay xy.length cy) ∧ w'.cell? ⟨y1.heap.size + 1, 0, none⟩ = some (.int .i64 np) ∧ w'.cell? ⟨y1.heap.size + 1, 1, none⟩ = some (.slice Ap xp.length cp) ∧ w'.cell? ⟨y1.heap.size, 0, none⟩ = some (.int .i64 no) ∧ w'.cell? ⟨y1.heap.size, 1, none⟩ = some (.slice Ao xo.length co) ∧ w'.cell? ⟨x9.heap.size, 0, none⟩ = some (.int .i64 nu) ∧ w'.cell? ⟨x9.heap.size, 1, none⟩ = some (.slice Av xu.length cv) ∧ w'.cell? ⟨x8.heap.size, 0, none⟩ = some (.int .i64 nu) ∧ w'.cell? ⟨x8.heap.size, 1, none⟩ = some (.slice Au xu.length cu') ∧ w'.cell? ⟨x6.heap.size, 0, none⟩ = some (.int .i64 nl) ∧ w'.cell? ⟨x6.heap.size, 1, none⟩ = some (.slice Am xl.length cm) ∧ w'.cell? ⟨x5.heap.size, 0, none⟩ = some (.int .i64 nl) ∧ w'.cell? ⟨x5.heap.size, 1, none⟩ = some (.slice Al xl.length cl) ∧ w'.cell? ⟨x3.heap.size, 0, none⟩ = some (.int .i64 nc) ∧ w'.cell? ⟨x3.heap.size, 1, none⟩ = some (.slice Ad xc.length cd) ∧ w'.cell? ⟨x2.heap.size, 0, none⟩ = some (.int .i64 nc) ∧ w'.cell? ⟨x2.heap.size, 1, none⟩ = some (.slice Ac xc.length cc) ∧ Kn w w' [(y3.heap.size, ny, .slice Ay xy.length cy), (y1.heap.size + 1, np, .slice Ap xp.length cp), (y1.heap.size, no, .slice Ao xo.length co), (x9.heap.size, nu, .slice Av xu.length cv), (x8.heap.size, nu, .slice Au xu.length cu'), (x6.heap.size, nl, .slice Am xl.length cm), (x5.heap.size, nl, .slice Al xl.length cl), (x3.heap.size, nc, .slice Ad xc.length cd), (x2.heap.size, nc, .slice Ac xc.length cc)] [(Ay, xy), (Ap, xp), (Ao, xo), (Av, xu), (Au, xu), (Am, xl), (Al, xl), (Ad, xc), (Ac, xc)])) (by kernel_rfl) ?_ (fun hHeld => ?_)
            · refine ⟨?_, ?_, ?_, ?_, ?_, ?_, ?_, ?_, ?_, ?_, ?_, ?_, ?_, ?_, ?_, ?_, ?_, ?_, ?_⟩ <;> (first | assumption)
            refine wpAnyH_take (i := 0) (oi := { dst := some 210, op := Op.move (Operand.tmp 19), type := 4, pos := "laws.go:268", after := #[], guard := none }) (v := ?_) rfl (by kernel_rfl) (by kernel_rfl) (by kernel_rfl) (fun _ _ _ h => h) (Or.inl ⟨by rfl, ?_⟩) (by assumption) ?_
            rotate_left
            · intro wy hSw; (try dsimp only at hSw); go_simp; (try with_reducible rfl)
            try simp only [Act.put, List.setIfInBounds_toArray, List.set_cons_zero, List.set_cons_succ]
            refine wpAnyH_take (i := 1) (oi := { dst := some 211, op := Op.move (Operand.tmp 21), type := 4, pos := "laws.go:268", after := #[], guard := none }) (v := ?_) rfl (by kernel_rfl) (by kernel_rfl) (by kernel_rfl) (fun _ _ _ h => h) (Or.inl ⟨by rfl, ?_⟩) (by assumption) ?_
            rotate_left
            · intro wy hSw; (try dsimp only at hSw); go_simp; (try with_reducible rfl)
            try simp only [Act.put, List.setIfInBounds_toArray, List.set_cons_zero, List.set_cons_succ]
            refine wpAnyH_take (i := 2) (oi := { dst := some 212, op := Op.binOp BinOp.eql 4 (Operand.tmp 210) (Operand.tmp 211) 4, type := 4, pos := "laws.go:268", after := #[{ on := 0, ground := Ground.data }, { on := 1, ground := Ground.data }], guard := none }) (v := ?_) rfl (by kernel_rfl) (by kernel_rfl) (by kernel_rfl) (fun _ _ _ h => h) (Or.inl ⟨by rfl, ?_⟩) (by assumption) ?_
            rotate_left
            · intro wy hSw; (try dsimp only at hSw); go_simp; (try with_reducible rfl)
            try simp only [Act.put, List.setIfInBounds_toArray, List.set_cons_zero, List.set_cons_succ]
            refine wpAnyH_take (i := 3) (oi := { dst := some 213, op := Op.move (Operand.tmp 212), type := 4, pos := "laws.go:268", after := #[{ on := 2, ground := Ground.data }], guard := none }) (v := ?_) rfl (by kernel_rfl) (by kernel_rfl) (by kernel_rfl) (fun _ _ _ h => h) (Or.inl ⟨by rfl, ?_⟩) (by assumption) ?_
            rotate_left
            · intro wy hSw; (try dsimp only at hSw); go_simp; (try with_reducible rfl)
            try simp only [Act.put, List.setIfInBounds_toArray, List.set_cons_zero, List.set_cons_succ]
            refine wpAnyH_take (i := 4) (oi := { dst := some 214, op := Op.load 26 (Operand.tmp 18), type := 26, pos := "laws.go:268", after := #[{ on := 3, ground := Ground.guard }], guard := some (3, true) }) (v := ?_) rfl (by kernel_rfl) (by kernel_rfl) (by kernel_rfl) (fun _ _ _ h => h) (Or.inl ⟨by rfl, ?_⟩) (by assumption) ?_
            rotate_left
            · intro wy hSw; (try dsimp only at hSw); go_simp; (try with_reducible rfl)
            try simp only [Act.put, List.setIfInBounds_toArray, List.set_cons_zero, List.set_cons_succ]
            refine wpAnyH_take (i := 5) (oi := { dst := some 215, op := Op.load 26 (Operand.tmp 20), type := 26, pos := "laws.go:268", after := #[{ on := 3, ground := Ground.guard }], guard := some (3, true) }) (v := ?_) rfl (by kernel_rfl) (by kernel_rfl) (by kernel_rfl) (fun _ _ _ h => h) (Or.inl ⟨by rfl, ?_⟩) (by assumption) ?_
            rotate_left
            · intro wy hSw; (try dsimp only at hSw); go_simp; (try with_reducible rfl)
            try simp only [Act.put, List.setIfInBounds_toArray, List.set_cons_zero, List.set_cons_succ]
            refine wpAnyH_ready (rs := [6]) (by kernel_rfl) (by simp) ?_
            refine AllReadyH.cons (o := { dst := some 216, op := Op.call { callee := Callee.value (Operand.func 8), args := #[Operand.tmp 214, Operand.tmp 215], argTypes := #[26, 26] }, type := 4, pos := "laws.go:268", after := #[{ on := 4, ground := Ground.data }, { on := 5, ground := Ground.data }, { on := 3, ground := Ground.chain }, { on := 3, ground := Ground.guard }], guard := some (3, true) }) rfl (fun K1 hK1 => ?_) ?_
            · go_simp
              (refine (HEcd.out _ ?_ ?_).mono ?_; exact Kn.list (w0 := w) (cs := [(y3.heap.size, ny, .slice Ay xy.length cy), (y1.heap.size + 1, np, .slice Ap xp.length cp), (y1.heap.size, no, .slice Ao xo.length co), (x9.heap.size, nu, .slice Av xu.length cv), (x8.heap.size, nu, .slice Au xu.length cu'), (x6.heap.size, nl, .slice Am xl.length cm), (x5.heap.size, nl, .slice Al xl.length cl), (x3.heap.size, nc, .slice Ad xc.length cd), (x2.heap.size, nc, .slice Ac xc.length cc)]) (ls := [(Ay, xy), (Ap, xp), (Ao, xo), (Av, xu), (Au, xu), (Am, xl), (Al, xl), (Ad, xc), (Ac, xc)]) (by assumption) 8 rfl; exact Kn.list (w0 := w) (cs := [(y3.heap.size, ny, .slice Ay xy.length cy), (y1.heap.size + 1, np, .slice Ap xp.length cp), (y1.heap.size, no, .slice Ao xo.length co), (x9.heap.size, nu, .slice Av xu.length cv), (x8.heap.size, nu, .slice Au xu.length cu'), (x6.heap.size, nl, .slice Am xl.length cm), (x5.heap.size, nl, .slice Al xl.length cl), (x3.heap.size, nc, .slice Ad xc.length cd), (x2.heap.size, nc, .slice Ac xc.length cc)]) (ls := [(Ay, xy), (Ap, xp), (Ao, xo), (Av, xu), (Au, xu), (Am, xl), (Al, xl), (Ad, xc), (Ac, xc)]) (by assumption) 7 rfl; rintro e wq ⟨rfl, hb⟩; have hkn : Kn w wq [(y3.heap.size, ny, .slice Ay xy.length cy), (y1.heap.size + 1, np, .slice Ap xp.length cp), (y1.heap.size, no, .slice Ao xo.length co), (x9.heap.size, nu, .slice Av xu.length cv), (x8.heap.size, nu, .slice Au xu.length cu'), (x6.heap.size, nl, .slice Am xl.length cm), (x5.heap.size, nl, .slice Al xl.length cl), (x3.heap.size, nc, .slice Ad xc.length cd), (x2.heap.size, nc, .slice Ac xc.length cc)] [(Ay, xy), (Ap, xp), (Ao, xo), (Av, xu), (Au, xu), (Am, xl), (Al, xl), (Ad, xc), (Ac, xc)] := Kn.below (by assumption) hb; obtain ⟨c00, c01⟩ := hkn.cell 0 rfl; obtain ⟨c10, c11⟩ := hkn.cell 1 rfl; obtain ⟨c20, c21⟩ := hkn.cell 2 rfl; obtain ⟨c30, c31⟩ := hkn.cell 3 rfl; obtain ⟨c40, c41⟩ := hkn.cell 4 rfl; obtain ⟨c50, c51⟩ := hkn.cell 5 rfl; obtain ⟨c60, c61⟩ := hkn.cell 6 rfl; obtain ⟨c70, c71⟩ := hkn.cell 7 rfl; obtain ⟨c80, c81⟩ := hkn.cell 8 rfl; clear hb)
              try go_wp2_with fail
              refine hK1.out _ _ ?_ (fun hHeld => ?_)
              · (try dsimp only); (refine ⟨?_, ?_, ?_, ?_, ?_, ?_, ?_, ?_, ?_, ?_, ?_, ?_, ?_, ?_, ?_, ?_, ?_, ?_, ?_⟩ <;> (first | assumption))
              clear hK1 K1
              try simp only [Act.put, List.setIfInBounds_toArray, List.set_cons_zero, List.set_cons_succ]
              refine wpAnyH_take (i := 7) (oi := { dst := some 217, op := Op.pick (Operand.tmp 213) (Operand.tmp 216) (Operand.const (Value.bool false)), type := 4, pos := "laws.go:268", after := #[{ on := 3, ground := Ground.data }, { on := 6, ground := Ground.data }], guard := none }) (v := ?_) rfl (by kernel_rfl) (by kernel_rfl) (by kernel_rfl) (fun _ _ _ h => h) (Or.inl ⟨by rfl, ?_⟩) (by assumption) ?_
              rotate_left
              · intro wy hSw; (try dsimp only at hSw); go_simp; (try with_reducible rfl)
              try simp only [Act.put, List.setIfInBounds_toArray, List.set_cons_zero, List.set_cons_succ]
              refine wpAnyH_take (i := 8) (oi := { dst := some 218, op := Op.move (Operand.tmp 217), type := 4, pos := "laws.go:268", after := #[{ on := 7, ground := Ground.data }, { on := 6, ground := Ground.chain }], guard := none }) (v := ?_) rfl (by kernel_rfl) (by kernel_rfl) (by kernel_rfl) (fun _ _ _ h => h) (Or.inl ⟨by rfl, ?_⟩) (by assumption) ?_
              rotate_left
              · intro wy hSw; (try dsimp only at hSw); go_simp; (try with_reducible rfl)
              try simp only [Act.put, List.setIfInBounds_toArray, List.set_cons_zero, List.set_cons_succ]
              refine wpAnyH_take (i := 9) (oi := { dst := some 219, op := Op.move (Operand.tmp 24), type := 4, pos := "laws.go:268", after := #[{ on := 8, ground := Ground.guard }], guard := some (8, true) }) (v := ?_) rfl (by kernel_rfl) (by kernel_rfl) (by kernel_rfl) (fun _ _ _ h => h) (Or.inl ⟨by rfl, ?_⟩) (by assumption) ?_
              rotate_left
              · intro wy hSw; (try dsimp only at hSw); go_simp; (try with_reducible rfl)
              try simp only [Act.put, List.setIfInBounds_toArray, List.set_cons_zero, List.set_cons_succ]
              refine wpAnyH_take (i := 10) (oi := { dst := some 220, op := Op.move (Operand.tmp 26), type := 4, pos := "laws.go:268", after := #[{ on := 8, ground := Ground.guard }], guard := some (8, true) }) (v := ?_) rfl (by kernel_rfl) (by kernel_rfl) (by kernel_rfl) (fun _ _ _ h => h) (Or.inl ⟨by rfl, ?_⟩) (by assumption) ?_
              rotate_left
              · intro wy hSw; (try dsimp only at hSw); go_simp; (try with_reducible rfl)
              try simp only [Act.put, List.setIfInBounds_toArray, List.set_cons_zero, List.set_cons_succ]
              refine wpAnyH_take (i := 11) (oi := { dst := some 221, op := Op.binOp BinOp.eql 4 (Operand.tmp 219) (Operand.tmp 220) 4, type := 4, pos := "laws.go:268", after := #[{ on := 9, ground := Ground.data }, { on := 10, ground := Ground.data }, { on := 8, ground := Ground.guard }], guard := some (8, true) }) (v := ?_) rfl (by kernel_rfl) (by kernel_rfl) (by kernel_rfl) (fun _ _ _ h => h) (Or.inl ⟨by rfl, ?_⟩) (by assumption) ?_
              rotate_left
              · intro wy hSw; (try dsimp only at hSw); go_simp; (try with_reducible rfl)
              try simp only [Act.put, List.setIfInBounds_toArray, List.set_cons_zero, List.set_cons_succ]
              refine wpAnyH_take (i := 12) (oi := { dst := some 222, op := Op.pick (Operand.tmp 218) (Operand.tmp 221) (Operand.const (Value.bool false)), type := 4, pos := "laws.go:268", after := #[{ on := 8, ground := Ground.data }, { on := 11, ground := Ground.data }], guard := none }) (v := ?_) rfl (by kernel_rfl) (by kernel_rfl) (by kernel_rfl) (fun _ _ _ h => h) (Or.inl ⟨by rfl, ?_⟩) (by assumption) ?_
              rotate_left
              · intro wy hSw; (try dsimp only at hSw); go_simp; (try with_reducible rfl)
              try simp only [Act.put, List.setIfInBounds_toArray, List.set_cons_zero, List.set_cons_succ]
              refine wpAnyH_take (i := 13) (oi := { dst := some 223, op := Op.move (Operand.tmp 222), type := 4, pos := "laws.go:268", after := #[{ on := 12, ground := Ground.data }, { on := 8, ground := Ground.chain }], guard := none }) (v := ?_) rfl (by kernel_rfl) (by kernel_rfl) (by kernel_rfl) (fun _ _ _ h => h) (Or.inl ⟨by rfl, ?_⟩) (by assumption) ?_
              rotate_left
              · intro wy hSw; (try dsimp only at hSw); go_simp; (try with_reducible rfl)
              try simp only [Act.put, List.setIfInBounds_toArray, List.set_cons_zero, List.set_cons_succ]
              refine wpAnyH_take (i := 14) (oi := { dst := some 224, op := Op.load 26 (Operand.tmp 23), type := 26, pos := "laws.go:268", after := #[{ on := 13, ground := Ground.guard }], guard := some (13, true) }) (v := ?_) rfl (by kernel_rfl) (by kernel_rfl) (by kernel_rfl) (fun _ _ _ h => h) (Or.inl ⟨by rfl, ?_⟩) (by assumption) ?_
              rotate_left
              · intro wy hSw; (try dsimp only at hSw); go_simp; (try with_reducible rfl)
              try simp only [Act.put, List.setIfInBounds_toArray, List.set_cons_zero, List.set_cons_succ]
              refine wpAnyH_take (i := 15) (oi := { dst := some 225, op := Op.load 26 (Operand.tmp 25), type := 26, pos := "laws.go:268", after := #[{ on := 13, ground := Ground.guard }], guard := some (13, true) }) (v := ?_) rfl (by kernel_rfl) (by kernel_rfl) (by kernel_rfl) (fun _ _ _ h => h) (Or.inl ⟨by rfl, ?_⟩) (by assumption) ?_
              rotate_left
              · intro wy hSw; (try dsimp only at hSw); go_simp; (try with_reducible rfl)
              try simp only [Act.put, List.setIfInBounds_toArray, List.set_cons_zero, List.set_cons_succ]
              refine wpAnyH_ready (rs := [16]) (by kernel_rfl) (by simp) ?_
              refine AllReadyH.cons (o := { dst := some 226, op := Op.call { callee := Callee.value (Operand.func 8), args := #[Operand.tmp 224, Operand.tmp 225], argTypes := #[26, 26] }, type := 4, pos := "laws.go:268", after := #[{ on := 14, ground := Ground.data }, { on := 15, ground := Ground.data }, { on := 13, ground := Ground.chain }, { on := 13, ground := Ground.guard }], guard := some (13, true) }) rfl (fun K2 hK2 => ?_) ?_
              · go_simp
                (refine (HElm.out _ ?_ ?_).mono ?_; exact Kn.list (w0 := w) (cs := [(y3.heap.size, ny, .slice Ay xy.length cy), (y1.heap.size + 1, np, .slice Ap xp.length cp), (y1.heap.size, no, .slice Ao xo.length co), (x9.heap.size, nu, .slice Av xu.length cv), (x8.heap.size, nu, .slice Au xu.length cu'), (x6.heap.size, nl, .slice Am xl.length cm), (x5.heap.size, nl, .slice Al xl.length cl), (x3.heap.size, nc, .slice Ad xc.length cd), (x2.heap.size, nc, .slice Ac xc.length cc)]) (ls := [(Ay, xy), (Ap, xp), (Ao, xo), (Av, xu), (Au, xu), (Am, xl), (Al, xl), (Ad, xc), (Ac, xc)]) (by assumption) 6 rfl; exact Kn.list (w0 := w) (cs := [(y3.heap.size, ny, .slice Ay xy.length cy), (y1.heap.size + 1, np, .slice Ap xp.length cp), (y1.heap.size, no, .slice Ao xo.length co), (x9.heap.size, nu, .slice Av xu.length cv), (x8.heap.size, nu, .slice Au xu.length cu'), (x6.heap.size, nl, .slice Am xl.length cm), (x5.heap.size, nl, .slice Al xl.length cl), (x3.heap.size, nc, .slice Ad xc.length cd), (x2.heap.size, nc, .slice Ac xc.length cc)]) (ls := [(Ay, xy), (Ap, xp), (Ao, xo), (Av, xu), (Au, xu), (Am, xl), (Al, xl), (Ad, xc), (Ac, xc)]) (by assumption) 5 rfl; rintro e wq ⟨rfl, hb⟩; have hkn : Kn w wq [(y3.heap.size, ny, .slice Ay xy.length cy), (y1.heap.size + 1, np, .slice Ap xp.length cp), (y1.heap.size, no, .slice Ao xo.length co), (x9.heap.size, nu, .slice Av xu.length cv), (x8.heap.size, nu, .slice Au xu.length cu'), (x6.heap.size, nl, .slice Am xl.length cm), (x5.heap.size, nl, .slice Al xl.length cl), (x3.heap.size, nc, .slice Ad xc.length cd), (x2.heap.size, nc, .slice Ac xc.length cc)] [(Ay, xy), (Ap, xp), (Ao, xo), (Av, xu), (Au, xu), (Am, xl), (Al, xl), (Ad, xc), (Ac, xc)] := Kn.below (by assumption) hb; obtain ⟨c00, c01⟩ := hkn.cell 0 rfl; obtain ⟨c10, c11⟩ := hkn.cell 1 rfl; obtain ⟨c20, c21⟩ := hkn.cell 2 rfl; obtain ⟨c30, c31⟩ := hkn.cell 3 rfl; obtain ⟨c40, c41⟩ := hkn.cell 4 rfl; obtain ⟨c50, c51⟩ := hkn.cell 5 rfl; obtain ⟨c60, c61⟩ := hkn.cell 6 rfl; obtain ⟨c70, c71⟩ := hkn.cell 7 rfl; obtain ⟨c80, c81⟩ := hkn.cell 8 rfl; clear hb)
                try go_wp2_with fail
                refine hK2.out _ _ ?_ (fun hHeld => ?_)
                · (try dsimp only); (refine ⟨?_, ?_, ?_, ?_, ?_, ?_, ?_, ?_, ?_, ?_, ?_, ?_, ?_, ?_, ?_, ?_, ?_, ?_, ?_⟩ <;> (first | assumption))
                clear hK2 K2
                try simp only [Act.put, List.setIfInBounds_toArray, List.set_cons_zero, List.set_cons_succ]
                refine wpAnyH_take (i := 17) (oi := { dst := some 227, op := Op.pick (Operand.tmp 223) (Operand.tmp 226) (Operand.const (Value.bool false)), type := 4, pos := "laws.go:268", after := #[{ on := 13, ground := Ground.data }, { on := 16, ground := Ground.data }], guard := none }) (v := ?_) rfl (by kernel_rfl) (by kernel_rfl) (by kernel_rfl) (fun _ _ _ h => h) (Or.inl ⟨by rfl, ?_⟩) (by assumption) ?_
                rotate_left
                · intro wy hSw; (try dsimp only at hSw); go_simp; (try with_reducible rfl)
                try simp only [Act.put, List.setIfInBounds_toArray, List.set_cons_zero, List.set_cons_succ]
                refine wpAnyH_take (i := 18) (oi := { dst := some 228, op := Op.move (Operand.tmp 227), type := 4, pos := "laws.go:268", after := #[{ on := 17, ground := Ground.data }, { on := 16, ground := Ground.chain }], guard := none }) (v := ?_) rfl (by kernel_rfl) (by kernel_rfl) (by kernel_rfl) (fun _ _ _ h => h) (Or.inl ⟨by rfl, ?_⟩) (by assumption) ?_
                rotate_left
                · intro wy hSw; (try dsimp only at hSw); go_simp; (try with_reducible rfl)
                try simp only [Act.put, List.setIfInBounds_toArray, List.set_cons_zero, List.set_cons_succ]
                refine wpAnyH_take (i := 19) (oi := { dst := some 229, op := Op.move (Operand.tmp 24), type := 4, pos := "laws.go:268", after := #[{ on := 18, ground := Ground.guard }], guard := some (18, true) }) (v := ?_) rfl (by kernel_rfl) (by kernel_rfl) (by kernel_rfl) (fun _ _ _ h => h) (Or.inl ⟨by rfl, ?_⟩) (by assumption) ?_
                rotate_left
                · intro wy hSw; (try dsimp only at hSw); go_simp; (try with_reducible rfl)
                try simp only [Act.put, List.setIfInBounds_toArray, List.set_cons_zero, List.set_cons_succ]
                refine wpAnyH_take (i := 20) (oi := { dst := some 230, op := Op.unOp UnOp.not 4 (Operand.tmp 229), type := 4, pos := "laws.go:268", after := #[{ on := 19, ground := Ground.data }, { on := 18, ground := Ground.guard }], guard := some (18, true) }) (v := ?_) rfl (by kernel_rfl) (by kernel_rfl) (by kernel_rfl) (fun _ _ _ h => h) (Or.inl ⟨by rfl, ?_⟩) (by assumption) ?_
                rotate_left
                · intro wy hSw; (try dsimp only at hSw); go_simp; (try with_reducible rfl)
                try simp only [Act.put, List.setIfInBounds_toArray, List.set_cons_zero, List.set_cons_succ]
                refine wpAnyH_take (i := 21) (oi := { dst := some 231, op := Op.move (Operand.tmp 230), type := 4, pos := "laws.go:268", after := #[{ on := 20, ground := Ground.data }, { on := 18, ground := Ground.chain }, { on := 18, ground := Ground.guard }], guard := some (18, true) }) (v := ?_) rfl (by kernel_rfl) (by kernel_rfl) (by kernel_rfl) (fun _ _ _ h => h) (Or.inl ⟨by rfl, ?_⟩) (by assumption) ?_
                rotate_left
                · intro wy hSw; (try dsimp only at hSw); go_simp; (try with_reducible rfl)
                try simp only [Act.put, List.setIfInBounds_toArray, List.set_cons_zero, List.set_cons_succ]
                refine wpAnyH_take (i := 22) (oi := { dst := some 232, op := Op.load 26 (Operand.tmp 25), type := 26, pos := "laws.go:268", after := #[{ on := 21, ground := Ground.guard }], guard := some (21, false) }) (v := ?_) rfl (by kernel_rfl) (by kernel_rfl) (by kernel_rfl) (fun _ _ _ h => h) (Or.inl ⟨by rfl, ?_⟩) (by assumption) ?_
                rotate_left
                · intro wy hSw; (try dsimp only at hSw); go_simp; (try with_reducible rfl)
                try simp only [Act.put, List.setIfInBounds_toArray, List.set_cons_zero, List.set_cons_succ]
                refine wpAnyH_ready (rs := [23]) (by kernel_rfl) (by simp) ?_
                refine AllReadyH.cons (o := { dst := some 233, op := Op.call { callee := Callee.value (Operand.func 31), args := #[Operand.tmp 232], argTypes := #[26] }, type := 4, pos := "laws.go:268", after := #[{ on := 22, ground := Ground.data }, { on := 21, ground := Ground.chain }, { on := 21, ground := Ground.guard }], guard := some (21, false) }) rfl (fun K3 hK3 => ?_) ?_
                · go_simp
                  (refine (HG.out _ ?_).mono ?_; exact Kn.list (w0 := w) (cs := [(y3.heap.size, ny, .slice Ay xy.length cy), (y1.heap.size + 1, np, .slice Ap xp.length cp), (y1.heap.size, no, .slice Ao xo.length co), (x9.heap.size, nu, .slice Av xu.length cv), (x8.heap.size, nu, .slice Au xu.length cu'), (x6.heap.size, nl, .slice Am xl.length cm), (x5.heap.size, nl, .slice Al xl.length cl), (x3.heap.size, nc, .slice Ad xc.length cd), (x2.heap.size, nc, .slice Ac xc.length cc)]) (ls := [(Ay, xy), (Ap, xp), (Ao, xo), (Av, xu), (Au, xu), (Am, xl), (Al, xl), (Ad, xc), (Ac, xc)]) (by assumption) 5 rfl; rintro e wq ⟨rfl, hb⟩; have hkn : Kn w wq [(y3.heap.size, ny, .slice Ay xy.length cy), (y1.heap.size + 1, np, .slice Ap xp.length cp), (y1.heap.size, no, .slice Ao xo.length co), (x9.heap.size, nu, .slice Av xu.length cv), (x8.heap.size, nu, .slice Au xu.length cu'), (x6.heap.size, nl, .slice Am xl.length cm), (x5.heap.size, nl, .slice Al xl.length cl), (x3.heap.size, nc, .slice Ad xc.length cd), (x2.heap.size, nc, .slice Ac xc.length cc)] [(Ay, xy), (Ap, xp), (Ao, xo), (Av, xu), (Au, xu), (Am, xl), (Al, xl), (Ad, xc), (Ac, xc)] := Kn.below (by assumption) hb; obtain ⟨c00, c01⟩ := hkn.cell 0 rfl; obtain ⟨c10, c11⟩ := hkn.cell 1 rfl; obtain ⟨c20, c21⟩ := hkn.cell 2 rfl; obtain ⟨c30, c31⟩ := hkn.cell 3 rfl; obtain ⟨c40, c41⟩ := hkn.cell 4 rfl; obtain ⟨c50, c51⟩ := hkn.cell 5 rfl; obtain ⟨c60, c61⟩ := hkn.cell 6 rfl; obtain ⟨c70, c71⟩ := hkn.cell 7 rfl; obtain ⟨c80, c81⟩ := hkn.cell 8 rfl; clear hb)
                  try go_wp2_with fail
                  refine hK3.out _ _ ?_ (fun hHeld => ?_)
                  · (try dsimp only); (refine ⟨?_, ?_, ?_, ?_, ?_, ?_, ?_, ?_, ?_, ?_, ?_, ?_, ?_, ?_, ?_, ?_, ?_, ?_, ?_⟩ <;> (first | assumption))
                  clear hK3 K3
                  try simp only [Act.put, List.setIfInBounds_toArray, List.set_cons_zero, List.set_cons_succ]
                  refine wpAnyH_take (i := 24) (oi := { dst := some 234, op := Op.pick (Operand.tmp 231) (Operand.const (Value.bool true)) (Operand.tmp 233), type := 4, pos := "laws.go:268", after := #[{ on := 21, ground := Ground.data }, { on := 23, ground := Ground.data }, { on := 18, ground := Ground.guard }], guard := some (18, true) }) (v := ?_) rfl (by kernel_rfl) (by kernel_rfl) (by kernel_rfl) (fun _ _ _ h => h) (Or.inl ⟨by rfl, ?_⟩) (by assumption) ?_
                  rotate_left
                  · intro wy hSw; (try dsimp only at hSw); go_simp; (try with_reducible rfl)
                  try simp only [Act.put, List.setIfInBounds_toArray, List.set_cons_zero, List.set_cons_succ]
                  refine wpAnyH_take (i := 25) (oi := { dst := some 235, op := Op.pick (Operand.tmp 228) (Operand.tmp 234) (Operand.const (Value.bool false)), type := 4, pos := "laws.go:268", after := #[{ on := 18, ground := Ground.data }, { on := 24, ground := Ground.data }], guard := none }) (v := ?_) rfl (by kernel_rfl) (by kernel_rfl) (by kernel_rfl) (fun _ _ _ h => h) (Or.inl ⟨by rfl, ?_⟩) (by assumption) ?_
                  rotate_left
                  · intro wy hSw; (try dsimp only at hSw); go_simp; (try with_reducible rfl)
                  try simp only [Act.put, List.setIfInBounds_toArray, List.set_cons_zero, List.set_cons_succ]
                  refine wpAnyH_take (i := 26) (oi := { dst := some 236, op := Op.move (Operand.tmp 235), type := 4, pos := "laws.go:268", after := #[{ on := 25, ground := Ground.data }, { on := 23, ground := Ground.chain }], guard := none }) (v := ?_) rfl (by kernel_rfl) (by kernel_rfl) (by kernel_rfl) (fun _ _ _ h => h) (Or.inl ⟨by rfl, ?_⟩) (by assumption) ?_
                  rotate_left
                  · intro wy hSw; (try dsimp only at hSw); go_simp; (try with_reducible rfl)
                  try simp only [Act.put, List.setIfInBounds_toArray, List.set_cons_zero, List.set_cons_succ]
                  refine wpAnyH_take (i := 27) (oi := { dst := some 237, op := Op.move (Operand.tmp 29), type := 4, pos := "laws.go:268", after := #[{ on := 26, ground := Ground.guard }], guard := some (26, true) }) (v := ?_) rfl (by kernel_rfl) (by kernel_rfl) (by kernel_rfl) (fun _ _ _ h => h) (Or.inl ⟨by rfl, ?_⟩) (by assumption) ?_
                  rotate_left
                  · intro wy hSw; (try dsimp only at hSw); go_simp; (try with_reducible rfl)
                  try simp only [Act.put, List.setIfInBounds_toArray, List.set_cons_zero, List.set_cons_succ]
                  refine wpAnyH_take (i := 28) (oi := { dst := some 238, op := Op.move (Operand.tmp 31), type := 4, pos := "laws.go:268", after := #[{ on := 26, ground := Ground.guard }], guard := some (26, true) }) (v := ?_) rfl (by kernel_rfl) (by kernel_rfl) (by kernel_rfl) (fun _ _ _ h => h) (Or.inl ⟨by rfl, ?_⟩) (by assumption) ?_
                  rotate_left
                  · intro wy hSw; (try dsimp only at hSw); go_simp; (try with_reducible rfl)
                  try simp only [Act.put, List.setIfInBounds_toArray, List.set_cons_zero, List.set_cons_succ]
                  refine wpAnyH_take (i := 29) (oi := { dst := some 239, op := Op.binOp BinOp.eql 4 (Operand.tmp 237) (Operand.tmp 238) 4, type := 4, pos := "laws.go:268", after := #[{ on := 27, ground := Ground.data }, { on := 28, ground := Ground.data }, { on := 26, ground := Ground.guard }], guard := some (26, true) }) (v := ?_) rfl (by kernel_rfl) (by kernel_rfl) (by kernel_rfl) (fun _ _ _ h => h) (Or.inl ⟨by rfl, ?_⟩) (by assumption) ?_
                  rotate_left
                  · intro wy hSw; (try dsimp only at hSw); go_simp; (try with_reducible rfl)
                  try simp only [Act.put, List.setIfInBounds_toArray, List.set_cons_zero, List.set_cons_succ]
                  refine wpAnyH_take (i := 30) (oi := { dst := some 240, op := Op.pick (Operand.tmp 236) (Operand.tmp 239) (Operand.const (Value.bool false)), type := 4, pos := "laws.go:268", after := #[{ on := 26, ground := Ground.data }, { on := 29, ground := Ground.data }], guard := none }) (v := ?_) rfl (by kernel_rfl) (by kernel_rfl) (by kernel_rfl) (fun _ _ _ h => h) (Or.inl ⟨by rfl, ?_⟩) (by assumption) ?_
                  rotate_left
                  · intro wy hSw; (try dsimp only at hSw); go_simp; (try with_reducible rfl)
                  try simp only [Act.put, List.setIfInBounds_toArray, List.set_cons_zero, List.set_cons_succ]
                  refine wpAnyH_take (i := 31) (oi := { dst := some 241, op := Op.move (Operand.tmp 240), type := 4, pos := "laws.go:268", after := #[{ on := 30, ground := Ground.data }, { on := 26, ground := Ground.chain }], guard := none }) (v := ?_) rfl (by kernel_rfl) (by kernel_rfl) (by kernel_rfl) (fun _ _ _ h => h) (Or.inl ⟨by rfl, ?_⟩) (by assumption) ?_
                  rotate_left
                  · intro wy hSw; (try dsimp only at hSw); go_simp; (try with_reducible rfl)
                  try simp only [Act.put, List.setIfInBounds_toArray, List.set_cons_zero, List.set_cons_succ]
                  refine wpAnyH_take (i := 32) (oi := { dst := some 242, op := Op.load 26 (Operand.tmp 28), type := 26, pos := "laws.go:268", after := #[{ on := 31, ground := Ground.guard }], guard := some (31, true) }) (v := ?_) rfl (by kernel_rfl) (by kernel_rfl) (by kernel_rfl) (fun _ _ _ h => h) (Or.inl ⟨by rfl, ?_⟩) (by assumption) ?_
                  rotate_left
                  · intro wy hSw; (try dsimp only at hSw); go_simp; (try with_reducible rfl)
                  try simp only [Act.put, List.setIfInBounds_toArray, List.set_cons_zero, List.set_cons_succ]
                  refine wpAnyH_take (i := 33) (oi := { dst := some 243, op := Op.load 26 (Operand.tmp 30), type := 26, pos := "laws.go:268", after := #[{ on := 31, ground := Ground.guard }], guard := some (31, true) }) (v := ?_) rfl (by kernel_rfl) (by kernel_rfl) (by kernel_rfl) (fun _ _ _ h => h) (Or.inl ⟨by rfl, ?_⟩) (by assumption) ?_
                  rotate_left
                  · intro wy hSw; (try dsimp only at hSw); go_simp; (try with_reducible rfl)
                  try simp only [Act.put, List.setIfInBounds_toArray, List.set_cons_zero, List.set_cons_succ]
                  refine wpAnyH_ready (rs := [34]) (by kernel_rfl) (by simp) ?_
                  refine AllReadyH.cons (o := { dst := some 244, op := Op.call { callee := Callee.value (Operand.func 8), args := #[Operand.tmp 242, Operand.tmp 243], argTypes := #[26, 26] }, type := 4, pos := "laws.go:268", after := #[{ on := 32, ground := Ground.data }, { on := 33, ground := Ground.data }, { on := 31, ground := Ground.chain }, { on := 31, ground := Ground.guard }], guard := some (31, true) }) rfl (fun K4 hK4 => ?_) ?_
                  · go_simp
                    (refine (HEuv.out _ ?_ ?_).mono ?_; exact Kn.list (w0 := w) (cs := [(y3.heap.size, ny, .slice Ay xy.length cy), (y1.heap.size + 1, np, .slice Ap xp.length cp), (y1.heap.size, no, .slice Ao xo.length co), (x9.heap.size, nu, .slice Av xu.length cv), (x8.heap.size, nu, .slice Au xu.length cu'), (x6.heap.size, nl, .slice Am xl.length cm), (x5.heap.size, nl, .slice Al xl.length cl), (x3.heap.size, nc, .slice Ad xc.length cd), (x2.heap.size, nc, .slice Ac xc.length cc)]) (ls := [(Ay, xy), (Ap, xp), (Ao, xo), (Av, xu), (Au, xu), (Am, xl), (Al, xl), (Ad, xc), (Ac, xc)]) (by assumption) 4 rfl; exact Kn.list (w0 := w) (cs := [(y3.heap.size, ny, .slice Ay xy.length cy), (y1.heap.size + 1, np, .slice Ap xp.length cp), (y1.heap.size, no, .slice Ao xo.length co), (x9.heap.size, nu, .slice Av xu.length cv), (x8.heap.size, nu, .slice Au xu.length cu'), (x6.heap.size, nl, .slice Am xl.length cm), (x5.heap.size, nl, .slice Al xl.length cl), (x3.heap.size, nc, .slice Ad xc.length cd), (x2.heap.size, nc, .slice Ac xc.length cc)]) (ls := [(Ay, xy), (Ap, xp), (Ao, xo), (Av, xu), (Au, xu), (Am, xl), (Al, xl), (Ad, xc), (Ac, xc)]) (by assumption) 3 rfl; rintro e wq ⟨rfl, hb⟩; have hkn : Kn w wq [(y3.heap.size, ny, .slice Ay xy.length cy), (y1.heap.size + 1, np, .slice Ap xp.length cp), (y1.heap.size, no, .slice Ao xo.length co), (x9.heap.size, nu, .slice Av xu.length cv), (x8.heap.size, nu, .slice Au xu.length cu'), (x6.heap.size, nl, .slice Am xl.length cm), (x5.heap.size, nl, .slice Al xl.length cl), (x3.heap.size, nc, .slice Ad xc.length cd), (x2.heap.size, nc, .slice Ac xc.length cc)] [(Ay, xy), (Ap, xp), (Ao, xo), (Av, xu), (Au, xu), (Am, xl), (Al, xl), (Ad, xc), (Ac, xc)] := Kn.below (by assumption) hb; obtain ⟨c00, c01⟩ := hkn.cell 0 rfl; obtain ⟨c10, c11⟩ := hkn.cell 1 rfl; obtain ⟨c20, c21⟩ := hkn.cell 2 rfl; obtain ⟨c30, c31⟩ := hkn.cell 3 rfl; obtain ⟨c40, c41⟩ := hkn.cell 4 rfl; obtain ⟨c50, c51⟩ := hkn.cell 5 rfl; obtain ⟨c60, c61⟩ := hkn.cell 6 rfl; obtain ⟨c70, c71⟩ := hkn.cell 7 rfl; obtain ⟨c80, c81⟩ := hkn.cell 8 rfl; clear hb)
                    try go_wp2_with fail
                    refine hK4.out _ _ ?_ (fun hHeld => ?_)
                    · (try dsimp only); (refine ⟨?_, ?_, ?_, ?_, ?_, ?_, ?_, ?_, ?_, ?_, ?_, ?_, ?_, ?_, ?_, ?_, ?_, ?_, ?_⟩ <;> (first | assumption))
                    clear hK4 K4
                    try simp only [Act.put, List.setIfInBounds_toArray, List.set_cons_zero, List.set_cons_succ]
                    refine wpAnyH_take (i := 35) (oi := { dst := some 245, op := Op.pick (Operand.tmp 241) (Operand.tmp 244) (Operand.const (Value.bool false)), type := 4, pos := "laws.go:268", after := #[{ on := 31, ground := Ground.data }, { on := 34, ground := Ground.data }], guard := none }) (v := ?_) rfl (by kernel_rfl) (by kernel_rfl) (by kernel_rfl) (fun _ _ _ h => h) (Or.inl ⟨by rfl, ?_⟩) (by assumption) ?_
                    rotate_left
                    · intro wy hSw; (try dsimp only at hSw); go_simp; (try with_reducible rfl)
                    try simp only [Act.put, List.setIfInBounds_toArray, List.set_cons_zero, List.set_cons_succ]
                    refine wpAnyH_take (i := 36) (oi := { dst := some 246, op := Op.move (Operand.tmp 245), type := 4, pos := "laws.go:268", after := #[{ on := 35, ground := Ground.data }, { on := 34, ground := Ground.chain }], guard := none }) (v := ?_) rfl (by kernel_rfl) (by kernel_rfl) (by kernel_rfl) (fun _ _ _ h => h) (Or.inl ⟨by rfl, ?_⟩) (by assumption) ?_
                    rotate_left
                    · intro wy hSw; (try dsimp only at hSw); go_simp; (try with_reducible rfl)
                    try simp only [Act.put, List.setIfInBounds_toArray, List.set_cons_zero, List.set_cons_succ]
                    refine wpAnyH_take (i := 37) (oi := { dst := some 247, op := Op.load 26 (Operand.tmp 32), type := 26, pos := "laws.go:268", after := #[{ on := 36, ground := Ground.guard }], guard := some (36, true) }) (v := ?_) rfl (by kernel_rfl) (by kernel_rfl) (by kernel_rfl) (fun _ _ _ h => h) (Or.inl ⟨by rfl, ?_⟩) (by assumption) ?_
                    rotate_left
                    · intro wy hSw; (try dsimp only at hSw); go_simp; (try with_reducible rfl)
                    try simp only [Act.put, List.setIfInBounds_toArray, List.set_cons_zero, List.set_cons_succ]
                    refine wpAnyH_take (i := 38) (oi := { dst := some 248, op := Op.load 26 (Operand.tmp 33), type := 26, pos := "laws.go:268", after := #[{ on := 36, ground := Ground.guard }], guard := some (36, true) }) (v := ?_) rfl (by kernel_rfl) (by kernel_rfl) (by kernel_rfl) (fun _ _ _ h => h) (Or.inl ⟨by rfl, ?_⟩) (by assumption) ?_
                    rotate_left
                    · intro wy hSw; (try dsimp only at hSw); go_simp; (try with_reducible rfl)
                    try simp only [Act.put, List.setIfInBounds_toArray, List.set_cons_zero, List.set_cons_succ]
                    refine wpAnyH_take (i := 40) (oi := { dst := some 250, op := Op.load 26 (Operand.tmp 32), type := 26, pos := "laws.go:268", after := #[{ on := 36, ground := Ground.guard }], guard := some (36, true) }) (v := ?_) rfl (by kernel_rfl) (by kernel_rfl) (by kernel_rfl) (fun _ _ _ h => h) (Or.inl ⟨by rfl, ?_⟩) (by assumption) ?_
                    rotate_left
                    · intro wy hSw; (try dsimp only at hSw); go_simp; (try with_reducible rfl)
                    try simp only [Act.put, List.setIfInBounds_toArray, List.set_cons_zero, List.set_cons_succ]
                    refine wpAnyH_take (i := 41) (oi := { dst := some 251, op := Op.load 26 (Operand.tmp 33), type := 26, pos := "laws.go:268", after := #[{ on := 36, ground := Ground.guard }], guard := some (36, true) }) (v := ?_) rfl (by kernel_rfl) (by kernel_rfl) (by kernel_rfl) (fun _ _ _ h => h) (Or.inl ⟨by rfl, ?_⟩) (by assumption) ?_
                    rotate_left
                    · intro wy hSw; (try dsimp only at hSw); go_simp; (try with_reducible rfl)
                    try simp only [Act.put, List.setIfInBounds_toArray, List.set_cons_zero, List.set_cons_succ]
                    refine wpAnyH_ready (rs := [39]) (by kernel_rfl) (by simp) ?_
                    refine AllReadyH.cons (o := { dst := some 249, op := Op.call { callee := Callee.value (Operand.func 32), args := #[Operand.tmp 247, Operand.tmp 248], argTypes := #[26, 26] }, type := 4, pos := "laws.go:268", after := #[{ on := 37, ground := Ground.data }, { on := 38, ground := Ground.data }, { on := 36, ground := Ground.chain }, { on := 36, ground := Ground.guard }], guard := some (36, true) }) rfl (fun K5 hK5 => ?_) ?_
                    · go_simp
                      (refine (HEi.out _ ?_ ?_).mono ?_; exact Kn.list (w0 := w) (cs := [(y3.heap.size, ny, .slice Ay xy.length cy), (y1.heap.size + 1, np, .slice Ap xp.length cp), (y1.heap.size, no, .slice Ao xo.length co), (x9.heap.size, nu, .slice Av xu.length cv), (x8.heap.size, nu, .slice Au xu.length cu'), (x6.heap.size, nl, .slice Am xl.length cm), (x5.heap.size, nl, .slice Al xl.length cl), (x3.heap.size, nc, .slice Ad xc.length cd), (x2.heap.size, nc, .slice Ac xc.length cc)]) (ls := [(Ay, xy), (Ap, xp), (Ao, xo), (Av, xu), (Au, xu), (Am, xl), (Al, xl), (Ad, xc), (Ac, xc)]) (by assumption) 2 rfl; exact Kn.list (w0 := w) (cs := [(y3.heap.size, ny, .slice Ay xy.length cy), (y1.heap.size + 1, np, .slice Ap xp.length cp), (y1.heap.size, no, .slice Ao xo.length co), (x9.heap.size, nu, .slice Av xu.length cv), (x8.heap.size, nu, .slice Au xu.length cu'), (x6.heap.size, nl, .slice Am xl.length cm), (x5.heap.size, nl, .slice Al xl.length cl), (x3.heap.size, nc, .slice Ad xc.length cd), (x2.heap.size, nc, .slice Ac xc.length cc)]) (ls := [(Ay, xy), (Ap, xp), (Ao, xo), (Av, xu), (Au, xu), (Am, xl), (Al, xl), (Ad, xc), (Ac, xc)]) (by assumption) 1 rfl; rintro e wq ⟨rfl, hb⟩; have hkn : Kn w wq [(y3.heap.size, ny, .slice Ay xy.length cy), (y1.heap.size + 1, np, .slice Ap xp.length cp), (y1.heap.size, no, .slice Ao xo.length co), (x9.heap.size, nu, .slice Av xu.length cv), (x8.heap.size, nu, .slice Au xu.length cu'), (x6.heap.size, nl, .slice Am xl.length cm), (x5.heap.size, nl, .slice Al xl.length cl), (x3.heap.size, nc, .slice Ad xc.length cd), (x2.heap.size, nc, .slice Ac xc.length cc)] [(Ay, xy), (Ap, xp), (Ao, xo), (Av, xu), (Au, xu), (Am, xl), (Al, xl), (Ad, xc), (Ac, xc)] := Kn.below (by assumption) hb; obtain ⟨c00, c01⟩ := hkn.cell 0 rfl; obtain ⟨c10, c11⟩ := hkn.cell 1 rfl; obtain ⟨c20, c21⟩ := hkn.cell 2 rfl; obtain ⟨c30, c31⟩ := hkn.cell 3 rfl; obtain ⟨c40, c41⟩ := hkn.cell 4 rfl; obtain ⟨c50, c51⟩ := hkn.cell 5 rfl; obtain ⟨c60, c61⟩ := hkn.cell 6 rfl; obtain ⟨c70, c71⟩ := hkn.cell 7 rfl; obtain ⟨c80, c81⟩ := hkn.cell 8 rfl; clear hb)
                      try go_wp2_with fail
                      refine hK5.out _ _ ?_ (fun hHeld => ?_)
                      · (try dsimp only); (refine ⟨?_, ?_, ?_, ?_, ?_, ?_, ?_, ?_, ?_, ?_, ?_, ?_, ?_, ?_, ?_, ?_, ?_, ?_, ?_⟩ <;> (first | assumption))
                      clear hK5 K5
                      try simp only [Act.put, List.setIfInBounds_toArray, List.set_cons_zero, List.set_cons_succ]
                      refine wpAnyH_ready (rs := [42]) (by kernel_rfl) (by simp) ?_
                      refine AllReadyH.cons (o := { dst := some 252, op := Op.call { callee := Callee.value (Operand.func 8), args := #[Operand.tmp 250, Operand.tmp 251], argTypes := #[26, 26] }, type := 4, pos := "laws.go:268", after := #[{ on := 40, ground := Ground.data }, { on := 41, ground := Ground.data }, { on := 39, ground := Ground.chain }, { on := 36, ground := Ground.guard }], guard := some (36, true) }) rfl (fun K6 hK6 => ?_) ?_
                      · go_simp
                        (refine (HEs.out _ ?_ ?_).mono ?_; exact Kn.list (w0 := w) (cs := [(y3.heap.size, ny, .slice Ay xy.length cy), (y1.heap.size + 1, np, .slice Ap xp.length cp), (y1.heap.size, no, .slice Ao xo.length co), (x9.heap.size, nu, .slice Av xu.length cv), (x8.heap.size, nu, .slice Au xu.length cu'), (x6.heap.size, nl, .slice Am xl.length cm), (x5.heap.size, nl, .slice Al xl.length cl), (x3.heap.size, nc, .slice Ad xc.length cd), (x2.heap.size, nc, .slice Ac xc.length cc)]) (ls := [(Ay, xy), (Ap, xp), (Ao, xo), (Av, xu), (Au, xu), (Am, xl), (Al, xl), (Ad, xc), (Ac, xc)]) (by assumption) 2 rfl; exact Kn.list (w0 := w) (cs := [(y3.heap.size, ny, .slice Ay xy.length cy), (y1.heap.size + 1, np, .slice Ap xp.length cp), (y1.heap.size, no, .slice Ao xo.length co), (x9.heap.size, nu, .slice Av xu.length cv), (x8.heap.size, nu, .slice Au xu.length cu'), (x6.heap.size, nl, .slice Am xl.length cm), (x5.heap.size, nl, .slice Al xl.length cl), (x3.heap.size, nc, .slice Ad xc.length cd), (x2.heap.size, nc, .slice Ac xc.length cc)]) (ls := [(Ay, xy), (Ap, xp), (Ao, xo), (Av, xu), (Au, xu), (Am, xl), (Al, xl), (Ad, xc), (Ac, xc)]) (by assumption) 1 rfl; rintro e wq ⟨rfl, hb⟩; have hkn : Kn w wq [(y3.heap.size, ny, .slice Ay xy.length cy), (y1.heap.size + 1, np, .slice Ap xp.length cp), (y1.heap.size, no, .slice Ao xo.length co), (x9.heap.size, nu, .slice Av xu.length cv), (x8.heap.size, nu, .slice Au xu.length cu'), (x6.heap.size, nl, .slice Am xl.length cm), (x5.heap.size, nl, .slice Al xl.length cl), (x3.heap.size, nc, .slice Ad xc.length cd), (x2.heap.size, nc, .slice Ac xc.length cc)] [(Ay, xy), (Ap, xp), (Ao, xo), (Av, xu), (Au, xu), (Am, xl), (Al, xl), (Ad, xc), (Ac, xc)] := Kn.below (by assumption) hb; obtain ⟨c00, c01⟩ := hkn.cell 0 rfl; obtain ⟨c10, c11⟩ := hkn.cell 1 rfl; obtain ⟨c20, c21⟩ := hkn.cell 2 rfl; obtain ⟨c30, c31⟩ := hkn.cell 3 rfl; obtain ⟨c40, c41⟩ := hkn.cell 4 rfl; obtain ⟨c50, c51⟩ := hkn.cell 5 rfl; obtain ⟨c60, c61⟩ := hkn.cell 6 rfl; obtain ⟨c70, c71⟩ := hkn.cell 7 rfl; obtain ⟨c80, c81⟩ := hkn.cell 8 rfl; clear hb)
                        try go_wp2_with fail
                        refine hK6.out _ _ ?_ (fun hHeld => ?_)
                        · (try dsimp only); (refine ⟨?_, ?_, ?_, ?_, ?_, ?_, ?_, ?_, ?_, ?_, ?_, ?_, ?_, ?_, ?_, ?_, ?_, ?_, ?_⟩ <;> (first | assumption))
                        clear hK6 K6
                        try simp only [Act.put, List.setIfInBounds_toArray, List.set_cons_zero, List.set_cons_succ]
                        refine wpAnyH_take (i := 43) (oi := { dst := some 253, op := Op.binOp BinOp.eql 4 (Operand.tmp 249) (Operand.tmp 252) 4, type := 4, pos := "laws.go:268", after := #[{ on := 39, ground := Ground.data }, { on := 42, ground := Ground.data }, { on := 36, ground := Ground.guard }], guard := some (36, true) }) (v := ?_) rfl (by kernel_rfl) (by kernel_rfl) (by kernel_rfl) (fun _ _ _ h => h) (Or.inl ⟨by rfl, ?_⟩) (by assumption) ?_
                        rotate_left
                        · intro wy hSw; (try dsimp only at hSw); go_simp; (try with_reducible rfl)
                        try simp only [Act.put, List.setIfInBounds_toArray, List.set_cons_zero, List.set_cons_succ]
                        refine wpAnyH_take (i := 44) (oi := { dst := some 254, op := Op.pick (Operand.tmp 246) (Operand.tmp 253) (Operand.const (Value.bool false)), type := 4, pos := "laws.go:268", after := #[{ on := 36, ground := Ground.data }, { on := 43, ground := Ground.data }], guard := none }) (v := ?_) rfl (by kernel_rfl) (by kernel_rfl) (by kernel_rfl) (fun _ _ _ h => h) (Or.inl ⟨by rfl, ?_⟩) (by assumption) ?_
                        rotate_left
                        · intro wy hSw; (try dsimp only at hSw); go_simp; (try with_reducible rfl)
                        try simp only [Act.put, List.setIfInBounds_toArray, List.set_cons_zero, List.set_cons_succ]
                        refine wpAnyH_take (i := 45) (oi := { dst := some 255, op := Op.move (Operand.tmp 254), type := 4, pos := "laws.go:268", after := #[{ on := 44, ground := Ground.data }, { on := 42, ground := Ground.chain }], guard := none }) (v := ?_) rfl (by kernel_rfl) (by kernel_rfl) (by kernel_rfl) (fun _ _ _ h => h) (Or.inl ⟨by rfl, ?_⟩) (by assumption) ?_
                        rotate_left
                        · intro wy hSw; (try dsimp only at hSw); go_simp; (try with_reducible rfl)
                        try simp only [Act.put, List.setIfInBounds_toArray, List.set_cons_zero, List.set_cons_succ]
                        refine wpAnyH_take (i := 46) (oi := { dst := some 256, op := Op.move (Operand.tmp 34), type := 3, pos := "laws.go:268", after := #[{ on := 45, ground := Ground.guard }], guard := some (45, true) }) (v := ?_) rfl (by kernel_rfl) (by kernel_rfl) (by kernel_rfl) (fun _ _ _ h => h) (Or.inl ⟨by rfl, ?_⟩) (by assumption) ?_
                        rotate_left
                        · intro wy hSw; (try dsimp only at hSw); go_simp; (try with_reducible rfl)
                        try simp only [Act.put, List.setIfInBounds_toArray, List.set_cons_zero, List.set_cons_succ]
                        refine wpAnyH_take (i := 47) (oi := { dst := some 257, op := Op.move (Operand.tmp 35), type := 3, pos := "laws.go:268", after := #[{ on := 45, ground := Ground.guard }], guard := some (45, true) }) (v := ?_) rfl (by kernel_rfl) (by kernel_rfl) (by kernel_rfl) (fun _ _ _ h => h) (Or.inl ⟨by rfl, ?_⟩) (by assumption) ?_
                        rotate_left
                        · intro wy hSw; (try dsimp only at hSw); go_simp; (try with_reducible rfl)
                        try simp only [Act.put, List.setIfInBounds_toArray, List.set_cons_zero, List.set_cons_succ]
                        refine wpAnyH_take (i := 49) (oi := { dst := some 259, op := Op.move (Operand.tmp 34), type := 3, pos := "laws.go:268", after := #[{ on := 45, ground := Ground.guard }], guard := some (45, true) }) (v := ?_) rfl (by kernel_rfl) (by kernel_rfl) (by kernel_rfl) (fun _ _ _ h => h) (Or.inl ⟨by rfl, ?_⟩) (by assumption) ?_
                        rotate_left
                        · intro wy hSw; (try dsimp only at hSw); go_simp; (try with_reducible rfl)
                        try simp only [Act.put, List.setIfInBounds_toArray, List.set_cons_zero, List.set_cons_succ]
                        refine wpAnyH_take (i := 50) (oi := { dst := some 260, op := Op.move (Operand.tmp 35), type := 3, pos := "laws.go:268", after := #[{ on := 45, ground := Ground.guard }], guard := some (45, true) }) (v := ?_) rfl (by kernel_rfl) (by kernel_rfl) (by kernel_rfl) (fun _ _ _ h => h) (Or.inl ⟨by rfl, ?_⟩) (by assumption) ?_
                        rotate_left
                        · intro wy hSw; (try dsimp only at hSw); go_simp; (try with_reducible rfl)
                        try simp only [Act.put, List.setIfInBounds_toArray, List.set_cons_zero, List.set_cons_succ]
                        refine wpAnyH_ready (rs := [48]) (by kernel_rfl) (by simp) ?_
                        refine AllReadyH.cons (o := { dst := some 258, op := Op.call { callee := Callee.value (Operand.func 34), args := #[Operand.tmp 256, Operand.tmp 257], argTypes := #[3, 3] }, type := 24, pos := "laws.go:268", after := #[{ on := 46, ground := Ground.data }, { on := 47, ground := Ground.data }, { on := 45, ground := Ground.chain }, { on := 45, ground := Ground.guard }], guard := some (45, true) }) rfl (fun K7 hK7 => ?_) ?_
                        · go_simp
                          (refine (HLi.out _ ?_).mono ?_; exact Kn.brujn (w0 := w) (cs := [(y3.heap.size, ny, .slice Ay xy.length cy), (y1.heap.size + 1, np, .slice Ap xp.length cp), (y1.heap.size, no, .slice Ao xo.length co), (x9.heap.size, nu, .slice Av xu.length cv), (x8.heap.size, nu, .slice Au xu.length cu'), (x6.heap.size, nl, .slice Am xl.length cm), (x5.heap.size, nl, .slice Al xl.length cl), (x3.heap.size, nc, .slice Ad xc.length cd), (x2.heap.size, nc, .slice Ac xc.length cc)]) (ls := [(Ay, xy), (Ap, xp), (Ao, xo), (Av, xu), (Au, xu), (Am, xl), (Al, xl), (Ad, xc), (Ac, xc)]) (by assumption); rintro e wE ⟨A1, c1, rfl, ho1, hb⟩; have hkn : Kn w wE [(y3.heap.size, ny, .slice Ay xy.length cy), (y1.heap.size + 1, np, .slice Ap xp.length cp), (y1.heap.size, no, .slice Ao xo.length co), (x9.heap.size, nu, .slice Av xu.length cv), (x8.heap.size, nu, .slice Au xu.length cu'), (x6.heap.size, nl, .slice Am xl.length cm), (x5.heap.size, nl, .slice Al xl.length cl), (x3.heap.size, nc, .slice Ad xc.length cd), (x2.heap.size, nc, .slice Ac xc.length cc)] [(Ay, xy), (Ap, xp), (Ao, xo), (Av, xu), (Au, xu), (Am, xl), (Al, xl), (Ad, xc), (Ac, xc)] := Kn.below (by assumption) hb; obtain ⟨c00, c01⟩ := hkn.cell 0 rfl; obtain ⟨c10, c11⟩ := hkn.cell 1 rfl; obtain ⟨c20, c21⟩ := hkn.cell 2 rfl; obtain ⟨c30, c31⟩ := hkn.cell 3 rfl; obtain ⟨c40, c41⟩ := hkn.cell 4 rfl; obtain ⟨c50, c51⟩ := hkn.cell 5 rfl; obtain ⟨c60, c61⟩ := hkn.cell 6 rfl; obtain ⟨c70, c71⟩ := hkn.cell 7 rfl; obtain ⟨c80, c81⟩ := hkn.cell 8 rfl; have hI1 := ho1.read; clear hb ho1)
                          try go_wp2_with fail
                          refine hK7.out _ _ ?_ (fun hHeld => ?_)
                          · (try dsimp only); (refine ⟨?_, ?_, ?_, ?_, ?_, ?_, ?_, ?_, ?_, ?_, ?_, ?_, ?_, ?_, ?_, ?_, ?_, ?_, ?_⟩ <;> (first | assumption))
                          clear hK7 K7
                          try simp only [Act.put, List.setIfInBounds_toArray, List.set_cons_zero, List.set_cons_succ]
                          refine wpAnyH_ready (rs := [51]) (by kernel_rfl) (by simp) ?_
                          refine AllReadyH.cons (o := { dst := some 261, op := Op.call { callee := Callee.value (Operand.func 35), args := #[Operand.tmp 259, Operand.tmp 260], argTypes := #[3, 3] }, type := 24, pos := "laws.go:268", after := #[{ on := 49, ground := Ground.data }, { on := 50, ground := Ground.data }, { on := 48, ground := Ground.chain }, { on := 45, ground := Ground.guard }], guard := some (45, true) }) rfl (fun K8 hK8 => ?_) ?_
                          · go_simp
                            (refine (HLs.out _).mono ?_; rintro e wF ⟨A2, c2, rfl, ho2, hb⟩; have hkn : Kn w wF [(y3.heap.size, ny, .slice Ay xy.length cy), (y1.heap.size + 1, np, .slice Ap xp.length cp), (y1.heap.size, no, .slice Ao xo.length co), (x9.heap.size, nu, .slice Av xu.length cv), (x8.heap.size, nu, .slice Au xu.length cu'), (x6.heap.size, nl, .slice Am xl.length cm), (x5.heap.size, nl, .slice Al xl.length cl), (x3.heap.size, nc, .slice Ad xc.length cd), (x2.heap.size, nc, .slice Ac xc.length cc)] [(Ay, xy), (Ap, xp), (Ao, xo), (Av, xu), (Au, xu), (Am, xl), (Al, xl), (Ad, xc), (Ac, xc)] := Kn.below (by assumption) hb; obtain ⟨c00, c01⟩ := hkn.cell 0 rfl; obtain ⟨c10, c11⟩ := hkn.cell 1 rfl; obtain ⟨c20, c21⟩ := hkn.cell 2 rfl; obtain ⟨c30, c31⟩ := hkn.cell 3 rfl; obtain ⟨c40, c41⟩ := hkn.cell 4 rfl; obtain ⟨c50, c51⟩ := hkn.cell 5 rfl; obtain ⟨c60, c61⟩ := hkn.cell 6 rfl; obtain ⟨c70, c71⟩ := hkn.cell 7 rfl; obtain ⟨c80, c81⟩ := hkn.cell 8 rfl; have hI2 := ho2.read; have hI3 := (hI1.below hb).mono hb.size; clear hb ho2 hI1)
                            try go_wp2_with fail
                            refine hK8.out _ _ ?_ (fun hHeld => ?_)
                            · (try dsimp only); (refine ⟨?_, ?_, ?_, ?_, ?_, ?_, ?_, ?_, ?_, ?_, ?_, ?_, ?_, ?_, ?_, ?_, ?_, ?_, ?_⟩ <;> (first | assumption))
                            clear hK8 K8
                            try simp only [Act.put, List.setIfInBounds_toArray, List.set_cons_zero, List.set_cons_succ]
                            refine wpAnyH_ready (rs := [52]) (by kernel_rfl) (by simp) ?_
                            refine AllReadyH.cons (o := { dst := some 262, op := Op.call { callee := Callee.value (Operand.func 33), args := #[Operand.tmp 258, Operand.tmp 261], argTypes := #[24, 24] }, type := 4, pos := "laws.go:268", after := #[{ on := 48, ground := Ground.data }, { on := 51, ground := Ground.data }, { on := 51, ground := Ground.chain }, { on := 45, ground := Ground.guard }], guard := some (45, true) }) rfl (fun K9 hK9 => ?_) ?_
                            · go_simp
                              (refine (sameInts_same A1 A2 es c1 c2 _ (Lib.hid hI3) (Lib.hid hI2) (by omega)).mono ?_; rintro e wG ⟨rfl, hq⟩; have hkn : Kn w wG [(y3.heap.size, ny, .slice Ay xy.length cy), (y1.heap.size + 1, np, .slice Ap xp.length cp), (y1.heap.size, no, .slice Ao xo.length co), (x9.heap.size, nu, .slice Av xu.length cv), (x8.heap.size, nu, .slice Au xu.length cu'), (x6.heap.size, nl, .slice Am xl.length cm), (x5.heap.size, nl, .slice Al xl.length cl), (x3.heap.size, nc, .slice Ad xc.length cd), (x2.heap.size, nc, .slice Ac xc.length cc)] [(Ay, xy), (Ap, xp), (Ao, xo), (Av, xu), (Au, xu), (Am, xl), (Al, xl), (Ad, xc), (Ac, xc)] := (by obtain ⟨qn, rfl⟩ := hq; exact Kn.drewN (by assumption) qn); obtain ⟨c00, c01⟩ := hkn.cell 0 rfl; obtain ⟨c10, c11⟩ := hkn.cell 1 rfl; obtain ⟨c20, c21⟩ := hkn.cell 2 rfl; obtain ⟨c30, c31⟩ := hkn.cell 3 rfl; obtain ⟨c40, c41⟩ := hkn.cell 4 rfl; obtain ⟨c50, c51⟩ := hkn.cell 5 rfl; obtain ⟨c60, c61⟩ := hkn.cell 6 rfl; obtain ⟨c70, c71⟩ := hkn.cell 7 rfl; obtain ⟨c80, c81⟩ := hkn.cell 8 rfl; clear hq)
                              try go_wp2_with fail
                              refine hK9.out _ _ ?_ (fun hHeld => ?_)
                              · (try dsimp only); (refine ⟨?_, ?_, ?_, ?_, ?_, ?_, ?_, ?_, ?_, ?_, ?_, ?_, ?_, ?_, ?_, ?_, ?_, ?_, ?_⟩ <;> (first | assumption))
                              clear hK9 K9
                              try simp only [Act.put, List.setIfInBounds_toArray, List.set_cons_zero, List.set_cons_succ]
                              refine wpAnyH_take (i := 53) (oi := { dst := some 263, op := Op.pick (Operand.tmp 255) (Operand.tmp 262) (Operand.const (Value.bool false)), type := 4, pos := "laws.go:268", after := #[{ on := 45, ground := Ground.data }, { on := 52, ground := Ground.data }], guard := none }) (v := ?_) rfl (by kernel_rfl) (by kernel_rfl) (by kernel_rfl) (fun _ _ _ h => h) (Or.inl ⟨by rfl, ?_⟩) (by assumption) ?_
                              rotate_left
                              · intro wy hSw; (try dsimp only at hSw); go_simp; (try with_reducible rfl)
                              try simp only [Act.put, List.setIfInBounds_toArray, List.set_cons_zero, List.set_cons_succ]
                              refine wpAnyH_take (i := 54) (oi := { dst := some 264, op := Op.move (Operand.tmp 263), type := 4, pos := "laws.go:268", after := #[{ on := 53, ground := Ground.data }, { on := 52, ground := Ground.chain }], guard := none }) (v := ?_) rfl (by kernel_rfl) (by kernel_rfl) (by kernel_rfl) (fun _ _ _ h => h) (Or.inl ⟨by rfl, ?_⟩) (by assumption) ?_
                              rotate_left
                              · intro wy hSw; (try dsimp only at hSw); go_simp; (try with_reducible rfl)
                              try simp only [Act.put, List.setIfInBounds_toArray, List.set_cons_zero, List.set_cons_succ]
                              refine wpAnyH_take (i := 55) (oi := { dst := some 265, op := Op.load 26 (Operand.tmp 36), type := 26, pos := "laws.go:268", after := #[{ on := 54, ground := Ground.guard }], guard := some (54, true) }) (v := ?_) rfl (by kernel_rfl) (by kernel_rfl) (by kernel_rfl) (fun _ _ _ h => h) (Or.inl ⟨by rfl, ?_⟩) (by assumption) ?_
                              rotate_left
                              · intro wy hSw; (try dsimp only at hSw); go_simp; (try with_reducible rfl)
                              try simp only [Act.put, List.setIfInBounds_toArray, List.set_cons_zero, List.set_cons_succ]
                              refine wpAnyH_take (i := 56) (oi := { dst := some 266, op := Op.move (Operand.tmp 37), type := 3, pos := "laws.go:268", after := #[{ on := 54, ground := Ground.guard }], guard := some (54, true) }) (v := ?_) rfl (by kernel_rfl) (by kernel_rfl) (by kernel_rfl) (fun _ _ _ h => h) (Or.inl ⟨by rfl, ?_⟩) (by assumption) ?_
                              rotate_left
                              · intro wy hSw; (try dsimp only at hSw); go_simp; (try with_reducible rfl)
                              try simp only [Act.put, List.setIfInBounds_toArray, List.set_cons_zero, List.set_cons_succ]
                              refine wpAnyH_take (i := 58) (oi := { dst := some 268, op := Op.load 26 (Operand.tmp 36), type := 26, pos := "laws.go:268", after := #[{ on := 54, ground := Ground.guard }], guard := some (54, true) }) (v := ?_) rfl (by kernel_rfl) (by kernel_rfl) (by kernel_rfl) (fun _ _ _ h => h) (Or.inl ⟨by rfl, ?_⟩) (by assumption) ?_
                              rotate_left
                              · intro wy hSw; (try dsimp only at hSw); go_simp; (try with_reducible rfl)
                              try simp only [Act.put, List.setIfInBounds_toArray, List.set_cons_zero, List.set_cons_succ]
                              refine wpAnyH_take (i := 59) (oi := { dst := some 269, op := Op.move (Operand.tmp 37), type := 3, pos := "laws.go:268", after := #[{ on := 54, ground := Ground.guard }], guard := some (54, true) }) (v := ?_) rfl (by kernel_rfl) (by kernel_rfl) (by kernel_rfl) (fun _ _ _ h => h) (Or.inl ⟨by rfl, ?_⟩) (by assumption) ?_
                              rotate_left
                              · intro wy hSw; (try dsimp only at hSw); go_simp; (try with_reducible rfl)
                              try simp only [Act.put, List.setIfInBounds_toArray, List.set_cons_zero, List.set_cons_succ]
                              refine wpAnyH_ready (rs := [57]) (by kernel_rfl) (by simp) ?_
                              refine AllReadyH.cons (o := { dst := some 267, op := Op.call { callee := Callee.value (Operand.func 19), args := #[Operand.tmp 265, Operand.tmp 266], argTypes := #[26, 3] }, type := 3, pos := "laws.go:268", after := #[{ on := 55, ground := Ground.data }, { on := 56, ground := Ground.data }, { on := 54, ground := Ground.chain }, { on := 54, ground := Ground.guard }], guard := some (54, true) }) rfl (fun K10 hK10 => ?_) ?_
                              · go_simp
                                (refine (HVi.out _ ?_).mono ?_; exact Kn.list (w0 := w) (cs := [(y3.heap.size, ny, .slice Ay xy.length cy), (y1.heap.size + 1, np, .slice Ap xp.length cp), (y1.heap.size, no, .slice Ao xo.length co), (x9.heap.size, nu, .slice Av xu.length cv), (x8.heap.size, nu, .slice Au xu.length cu'), (x6.heap.size, nl, .slice Am xl.length cm), (x5.heap.size, nl, .slice Al xl.length cl), (x3.heap.size, nc, .slice Ad xc.length cd), (x2.heap.size, nc, .slice Ac xc.length cc)]) (ls := [(Ay, xy), (Ap, xp), (Ao, xo), (Av, xu), (Au, xu), (Am, xl), (Al, xl), (Ad, xc), (Ac, xc)]) (by assumption) 0 rfl; rintro e wq ⟨rfl, hb⟩; have hkn : Kn w wq [(y3.heap.size, ny, .slice Ay xy.length cy), (y1.heap.size + 1, np, .slice Ap xp.length cp), (y1.heap.size, no, .slice Ao xo.length co), (x9.heap.size, nu, .slice Av xu.length cv), (x8.heap.size, nu, .slice Au xu.length cu'), (x6.heap.size, nl, .slice Am xl.length cm), (x5.heap.size, nl, .slice Al xl.length cl), (x3.heap.size, nc, .slice Ad xc.length cd), (x2.heap.size, nc, .slice Ac xc.length cc)] [(Ay, xy), (Ap, xp), (Ao, xo), (Av, xu), (Au, xu), (Am, xl), (Al, xl), (Ad, xc), (Ac, xc)] := Kn.below (by assumption) hb; obtain ⟨c00, c01⟩ := hkn.cell 0 rfl; obtain ⟨c10, c11⟩ := hkn.cell 1 rfl; obtain ⟨c20, c21⟩ := hkn.cell 2 rfl; obtain ⟨c30, c31⟩ := hkn.cell 3 rfl; obtain ⟨c40, c41⟩ := hkn.cell 4 rfl; obtain ⟨c50, c51⟩ := hkn.cell 5 rfl; obtain ⟨c60, c61⟩ := hkn.cell 6 rfl; obtain ⟨c70, c71⟩ := hkn.cell 7 rfl; obtain ⟨c80, c81⟩ := hkn.cell 8 rfl; clear hb)
                                try go_wp2_with fail
                                refine hK10.out _ _ ?_ (fun hHeld => ?_)
                                · (try dsimp only); (refine ⟨?_, ?_, ?_, ?_, ?_, ?_, ?_, ?_, ?_, ?_, ?_, ?_, ?_, ?_, ?_, ?_, ?_, ?_, ?_⟩ <;> (first | assumption))
                                clear hK10 K10
                                try simp only [Act.put, List.setIfInBounds_toArray, List.set_cons_zero, List.set_cons_succ]
                                refine wpAnyH_ready (rs := [60]) (by kernel_rfl) (by simp) ?_
                                refine AllReadyH.cons (o := { dst := some 270, op := Op.call { callee := Callee.value (Operand.func 36), args := #[Operand.tmp 268, Operand.tmp 269], argTypes := #[26, 3] }, type := 3, pos := "laws.go:268", after := #[{ on := 58, ground := Ground.data }, { on := 59, ground := Ground.data }, { on := 57, ground := Ground.chain }, { on := 54, ground := Ground.guard }], guard := some (54, true) }) rfl (fun K11 hK11 => ?_) ?_
                                · go_simp
                                  (refine (HVs.out _ ?_).mono ?_; exact Kn.list (w0 := w) (cs := [(y3.heap.size, ny, .slice Ay xy.length cy), (y1.heap.size + 1, np, .slice Ap xp.length cp), (y1.heap.size, no, .slice Ao xo.length co), (x9.heap.size, nu, .slice Av xu.length cv), (x8.heap.size, nu, .slice Au xu.length cu'), (x6.heap.size, nl, .slice Am xl.length cm), (x5.heap.size, nl, .slice Al xl.length cl), (x3.heap.size, nc, .slice Ad xc.length cd), (x2.heap.size, nc, .slice Ac xc.length cc)]) (ls := [(Ay, xy), (Ap, xp), (Ao, xo), (Av, xu), (Au, xu), (Am, xl), (Al, xl), (Ad, xc), (Ac, xc)]) (by assumption) 0 rfl; rintro e wq ⟨rfl, hb⟩; have hkn : Kn w wq [(y3.heap.size, ny, .slice Ay xy.length cy), (y1.heap.size + 1, np, .slice Ap xp.length cp), (y1.heap.size, no, .slice Ao xo.length co), (x9.heap.size, nu, .slice Av xu.length cv), (x8.heap.size, nu, .slice Au xu.length cu'), (x6.heap.size, nl, .slice Am xl.length cm), (x5.heap.size, nl, .slice Al xl.length cl), (x3.heap.size, nc, .slice Ad xc.length cd), (x2.heap.size, nc, .slice Ac xc.length cc)] [(Ay, xy), (Ap, xp), (Ao, xo), (Av, xu), (Au, xu), (Am, xl), (Al, xl), (Ad, xc), (Ac, xc)] := Kn.below (by assumption) hb; obtain ⟨c00, c01⟩ := hkn.cell 0 rfl; obtain ⟨c10, c11⟩ := hkn.cell 1 rfl; obtain ⟨c20, c21⟩ := hkn.cell 2 rfl; obtain ⟨c30, c31⟩ := hkn.cell 3 rfl; obtain ⟨c40, c41⟩ := hkn.cell 4 rfl; obtain ⟨c50, c51⟩ := hkn.cell 5 rfl; obtain ⟨c60, c61⟩ := hkn.cell 6 rfl; obtain ⟨c70, c71⟩ := hkn.cell 7 rfl; obtain ⟨c80, c81⟩ := hkn.cell 8 rfl; clear hb)
                                  try go_wp2_with fail
                                  refine hK11.out _ _ ?_ (fun hHeld => ?_)
                                  · (try dsimp only); (refine ⟨?_, ?_, ?_, ?_, ?_, ?_, ?_, ?_, ?_, ?_, ?_, ?_, ?_, ?_, ?_, ?_, ?_, ?_, ?_⟩ <;> (first | assumption))
                                  clear hK11 K11
                                  try simp only [Act.put, List.setIfInBounds_toArray, List.set_cons_zero, List.set_cons_succ]
                                  refine wpAnyH_take (i := 61) (oi := { dst := some 271, op := Op.binOp BinOp.eql 3 (Operand.tmp 267) (Operand.tmp 270) 3, type := 4, pos := "laws.go:268", after := #[{ on := 57, ground := Ground.data }, { on := 60, ground := Ground.data }, { on := 54, ground := Ground.guard }], guard := some (54, true) }) (v := ?_) rfl (by kernel_rfl) (by kernel_rfl) (by kernel_rfl) (fun _ _ _ h => h) (Or.inl ⟨by rfl, ?_⟩) (by assumption) ?_
                                  rotate_left
                                  · intro wy hSw; (try dsimp only at hSw); go_simp; (try with_reducible rfl)
                                  try simp only [Act.put, List.setIfInBounds_toArray, List.set_cons_zero, List.set_cons_succ]
                                  refine wpAnyH_take (i := 62) (oi := { dst := some 272, op := Op.pick (Operand.tmp 264) (Operand.tmp 271) (Operand.const (Value.bool false)), type := 4, pos := "laws.go:268", after := #[{ on := 54, ground := Ground.data }, { on := 61, ground := Ground.data }], guard := none }) (v := ?_) rfl (by kernel_rfl) (by kernel_rfl) (by kernel_rfl) (fun _ _ _ h => h) (Or.inl ⟨by rfl, ?_⟩) (by assumption) ?_
                                  rotate_left
                                  · intro wy hSw; (try dsimp only at hSw); go_simp; (try with_reducible rfl)
                                  try simp only [Act.put, List.setIfInBounds_toArray, List.set_cons_zero, List.set_cons_succ]
                                  refine wpAnyH_take (i := 63) (oi := { dst := some 2, op := Op.assign (Operand.tmp 272), type := 4, pos := "laws.go:268", after := ([{ on := 62, ground := Ground.data }, { on := 60, ground := Ground.chain }, { on := 0, ground := Ground.phase }, { on := 1, ground := Ground.phase }, { on := 2, ground := Ground.phase }, { on := 3, ground := Ground.phase }, { on := 4, ground := Ground.phase }, { on := 5, ground := Ground.phase }, { on := 6, ground := Ground.phase }, { on := 7, ground := Ground.phase }, { on := 8, ground := Ground.phase }, { on := 9, ground := Ground.phase }, { on := 10, ground := Ground.phase }, { on := 11, ground := Ground.phase }, { on := 12, ground := Ground.phase }, { on := 13, ground := Ground.phase }, { on := 14, ground := Ground.phase }, { on := 15, ground := Ground.phase }, { on := 16, ground := Ground.phase }, { on := 17, ground := Ground.phase }, { on := 18, ground := Ground.phase }, { on := 19, ground := Ground.phase }, { on := 20, ground := Ground.phase }, { on := 21, ground := Ground.phase }, { on := 22, ground := Ground.phase }, { on := 23, ground := Ground.phase }, { on := 24, ground := Ground.phase }, { on := 25, ground := Ground.phase }, { on := 26, ground := Ground.phase }, { on := 27, ground := Ground.phase }, { on := 28, ground := Ground.phase }, { on := 29, ground := Ground.phase }].append [{ on := 30, ground := Ground.phase }, { on := 31, ground := Ground.phase }, { on := 32, ground := Ground.phase }, { on := 33, ground := Ground.phase }, { on := 34, ground := Ground.phase }, { on := 35, ground := Ground.phase }, { on := 36, ground := Ground.phase }, { on := 37, ground := Ground.phase }, { on := 38, ground := Ground.phase }, { on := 39, ground := Ground.phase }, { on := 40, ground := Ground.phase }, { on := 41, ground := Ground.phase }, { on := 42, ground := Ground.phase }, { on := 43, ground := Ground.phase }, { on := 44, ground := Ground.phase }, { on := 45, ground := Ground.phase }, { on := 46, ground := Ground.phase }, { on := 47, ground := Ground.phase }, { on := 48, ground := Ground.phase }, { on := 49, ground := Ground.phase }, { on := 50, ground := Ground.phase }, { on := 51, ground := Ground.phase }, { on := 52, ground := Ground.phase }, { on := 53, ground := Ground.phase }, { on := 54, ground := Ground.phase }, { on := 55, ground := Ground.phase }, { on := 56, ground := Ground.phase }, { on := 57, ground := Ground.phase }, { on := 58, ground := Ground.phase }, { on := 59, ground := Ground.phase }, { on := 60, ground := Ground.phase }, { on := 61, ground := Ground.phase }, { on := 62, ground := Ground.phase }]).toArray, guard := none }) (v := ?_) rfl (by kernel_rfl) (by kernel_rfl) (by kernel_rfl) (fun _ _ _ h => h) (Or.inl ⟨by rfl, ?_⟩) (by assumption) ?_
                                  rotate_left
                                  · intro wy hSw; (try dsimp only at hSw); go_simp; (try with_reducible rfl)
                                  try simp only [Act.put, List.setIfInBounds_toArray, List.set_cons_zero, List.set_cons_succ]
                                  refine wpAnyH_done (by kernel_rfl) ?_ _
                                  go_wp2_with fail
                                  go_ret
                                  exact ⟨rfl, Kn.base (w0 := w) (cs := [(y3.heap.size, ny, .slice Ay xy.length cy), (y1.heap.size + 1, np, .slice Ap xp.length cp), (y1.heap.size, no, .slice Ao xo.length co), (x9.heap.size, nu, .slice Av xu.length cv), (x8.heap.size, nu, .slice Au xu.length cu'), (x6.heap.size, nl, .slice Am xl.length cm), (x5.heap.size, nl, .slice Al xl.length cl), (x3.heap.size, nc, .slice Ad xc.length cd), (x2.heap.size, nc, .slice Ac xc.length cc)]) (ls := [(Ay, xy), (Ap, xp), (Ao, xo), (Av, xu), (Au, xu), (Am, xl), (Al, xl), (Ad, xc), (Ac, xc)]) (by assumption)⟩
                                exact AllReadyH.nil
                              exact AllReadyH.nil
                            exact AllReadyH.nil
                          exact AllReadyH.nil
                        exact AllReadyH.nil
                      exact AllReadyH.nil
                    exact AllReadyH.nil
                  exact AllReadyH.nil
                exact AllReadyH.nil
              exact AllReadyH.nil
            exact AllReadyH.nil

end Go.Proofs.YtielfnjkfceliaaGreatDoor.C
