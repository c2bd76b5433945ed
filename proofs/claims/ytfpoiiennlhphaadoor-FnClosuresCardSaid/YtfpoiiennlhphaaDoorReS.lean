/-
  The contracts of spec.RestrictFunction, ContractFunction, DualFunction and of what they call.
-/
import Derived.Test.YtfpoiiennlhphaaDoorAllM
import Derived.Test.YtfpoiiennlhphaaDoorClS
import Derived.Test.YtfpoiiennlhphaaDoorImA
import Derived.Test.YtfpoiiennlhphaaDoorModS
import Derived.Deep.RegionHeld3
namespace Go.Proofs.YtfpoiiennlhphaaDoor.C
open Go.RowKit K M
set_option linter.unusedVariables false
set_option linter.unusedSimpArgs false

theorem or_two (S P : Nat) (hS : S < 4294967296) (hP : P < 4294967296) : bits .or .i64 (S : Int) (P : Int) = ((S ||| P : Nat) : Int) := by
  have hx : S ||| P < 2 ^ 32 := Nat.or_lt_two_pow (by omega) (by omega)
  have ofI : ∀ a : Nat, a < 9223372036854775808 → (BitVec.ofInt 64 (a : Int)).toNat = a := fun a ha => by
    rw [BitVec.ofInt_natCast, BitVec.toNat_ofNat]; exact Nat.mod_eq_of_lt (by omega)
  show IntKind.i64.wrap ((BitVec.ofInt 64 (S : Int) ||| BitVec.ofInt 64 (P : Int)).toNat : Int) = _
  rw [BitVec.toNat_or, ofI S (by omega), ofI P (by omega), IntKind.wrap_i64]
  omega
theorem shl_at {N p : Nat} (h5 : N ≤ 5) (hp : p = 2 ^ N) : wrap64 (2 ^ N) = (p : Int) := by
  have hsh := shl_one (n := (N : Int)) (m := p) (by omega) (by omega) (by rw [Int.toNat_natCast]; exact hp)
  rwa [Int.toNat_natCast] at hsh

set_option maxRecDepth 100000 in
set_option maxHeartbeats 3200000 in
theorem spreadS_any (s x : Nat) (w : World) (hs : s < 32) (hx : x < 4294967296) :
    Calls Tryd.prog 74 #[.int .i64 s, .int .i64 x] w (RetV w (.int .i64 (spread (els s) x (ones s)))) := by
  have HW := Lib.hid (St.start w)
  have HE := Lib.hid (fun W => listS_any s W (by omega))
  have hlen := ones_els s hs
  have hat := Lib.hid (fun j (hj : j < ones s) => (els_ok s hs j (by omega)).1)
  have hb := Lib.hid (fun j (hj : j < ones s) => (lies_els (n := 5) (s := s) (S := 0) (by omega) (by omega) fun q _ => Nat.zero_testBit q).below j hj)
  have hlt := Lib.hid (fun j (hj : j ≤ ones s) => spread_lt (n := 5) (l := els s) (x := x) j fun k hk => (lies_els (n := 5) (s := s) (S := 0) (by omega) (by omega) fun q _ => Nat.zero_testBit q).below k (by omega))
  have ho5 := ones_le5 5 (Nat.le_refl _) s (by omega)
  generalize ones s = o at *
  generalize els s = es at *
  have HL := Lib.hid hlen
  go_enter Tryd.func74, Tryd.ntmps74
  go_wp2_with (go_at_call 114; refine (HE.out _).mono ?_; rintro e w1 ⟨V, c, rfl, ho, hb1⟩; rw [HL.out]; rw [HL.out] at ho; have hS1 := HW.out.newI hb1 ho; rw [HL.out] at hS1; have HS1 := Lib.hid hS1; clear ho hb1 hS1)
  clear hlen
  go_loopw [6, 7] (fun y i wr => ∃ k : Nat, i = .int .i64 k ∧ k ≤ o ∧ y = .int .i64 (spread es x k) ∧ St w wr [il (.slice V o c) o es]) (fun _ i _ => o - (intOf i).toNat)
  case atStart => exact ⟨0, rfl, Nat.zero_le _, rfl, HS1.out⟩
  case round =>
    obtain ⟨k, rfl, hk, rfl, hS⟩ := hrel
    have HS := Lib.hid hS
    by_cases hlt2 : k < o
    · obtain ⟨b, off, rfl, hbl, hc⟩ := (hS.ints (i := 0) rfl).at_ (k := k) (by rw [HL.out]; exact hlt2)
      have g1 := hat.out k hlt2
      have g2 := hb.out k hlt2
      have hq := hlt.out k (by omega)
      obtain ⟨E, hE⟩ : ∃ E : Nat, es.getD k 0 = (E : Int) := ⟨_, (Int.toNat_of_nonneg g1).symm⟩
      have hstep : spread es x (k + 1) = if x.testBit k = true then spread es x k ||| 2 ^ (es.getD k 0).toNat else spread es x k := rfl
      rw [hE] at hc g2 hstep
      rw [Int.toNat_natCast] at g2 hstep
      have o1 := or_nat (spread es x k) E (by omega) (by omega)
      have e1 := bit_val x k hx
      generalize spread es x k = y at hq hstep o1 ⊢
      have hk0 : (0 : Int) ≤ (k : Int) := by omega
      have hko : (k : Int) < (o : Int) := by omega
      have hE0 : (0 : Int) ≤ (E : Int) := by omega
      have hE5 : (E : Int) < 5 := by omega
      clear hS hE g1
      by_cases t : x.testBit k = true
      · rw [if_pos t] at e1 hstep
        have HST := Lib.hid hstep
        clear hstep
        go_wp2
        go_roundw
        case rel => exact ⟨k + 1, by go_num, by omega, by rw [HST.out], HS.out⟩
        case measure => simp [intOf]; omega
      · rw [if_neg t] at e1 hstep
        have HST := Lib.hid hstep
        clear hstep
        go_wp2
        go_roundw
        case rel => exact ⟨k + 1, by go_num, by omega, by rw [HST.out], HS.out⟩
        case measure => simp [intOf]; omega
    · obtain rfl : k = o := by omega
      have hkn : ¬ (k : Int) < (k : Int) := by omega
      clear hS
      go_wp2
      go_ret
      exact ⟨rfl, HS.out.base⟩

set_option maxRecDepth 100000 in
set_option maxHeartbeats 1600000 in
theorem restS_no (n : Int) (A : Option Addr) (xs : List Int) (cap : Nat) (s : Int) (w : World) (h : Hid (Ints w w.heap.size A xs)) (hno : (isFn n xs && isSet n s) = false) :
    Calls Tryd.prog 19 #[.agg #[.int .i64 n, .slice A xs.length cap], .int .i64 s] w (RetFB w 0 [] false) := by
  have HW := Lib.hid (St.start w)
  have HI := Lib.hid (fun W hW => inS_any n A xs cap s W (Lib.hid hW))
  rw [hno] at HI
  clear hno
  go_enter Tryd.func19, Tryd.ntmps19
  go_wp2_with (go_at_call 65; refine St.use (w0 := w) (by exact (HW.out.alloc _ _).alloc _ _) ?_; intro hS; (try simp only [World.size_alloc] at hS); refine (HI.out _ ((h.out.below hS.base).mono hS.size)).mono ?_; rintro e w2 ⟨rfl, hb⟩; have hS2 := hS.below hb; obtain ⟨u0, uf⟩ := hS2.box (i := 0) rfl; have u00 := u0 0 _ rfl; have u01 := u0 1 _ rfl; have uf0 := uf 0; have uf1 := uf 1; have ul := (hS2.lt (i := 0) rfl).2; have HS2 := Lib.hid hS2; clear hS hb hS2 u0 uf)
  have hZ := (HS2.out.store (i := 0) rfl 0 (.int .i64 0)).store (i := 0) rfl 1 (.slice none 0 0)
  exact bodyPost_ret (v := .tuple #[.agg #[.int .i64 0, .slice none 0 0], .bool false]) (by simp [results, Tryd.results19, go_sem, u00, u01, uf0, uf1, ul]) rfl ⟨none, 0, rfl, Own.nil _ _, by first | exact hZ.base | exact HS2.out.base⟩

set_option maxRecDepth 100000 in
set_option maxHeartbeats 4000000 in
theorem restS_good (N : Nat) (A : Option Addr) (xs : List Int) (cap S : Nat) (w : World) (h : Hid (Ints w w.heap.size A xs)) (hf : isFn (N : Int) xs = true) (hS : S < 2 ^ N) :
    Calls Tryd.prog 19 #[.agg #[.int .i64 N, .slice A xs.length cap], .int .i64 S] w (RetFB w ((ones S : Nat) : Int) (tab (2 ^ ones S) (restV xs S)) true) := by
  have HW := Lib.hid (St.start w)
  obtain ⟨-, h5, hl, -⟩ := isFn_yes hf
  rw [Int.toNat_natCast] at hl
  have h5' : N ≤ 5 := by omega
  have h32 : S < 32 := Nat.lt_of_lt_of_le hS (Nat.le_trans (Nat.pow_le_pow_right (by decide) h5') (by decide))
  have HI := Lib.hid (fun W hW => inS_any (N : Int) A xs cap S W (Lib.hid hW))
  rw [show (isFn (N : Int) xs && isSet (N : Int) (S : Int)) = true by rw [hf]; simp [isSet]; exact_mod_cast hS] at HI
  have HZ := Lib.hid (fun W => sizeS_any S W (by omega))
  have HSP := Lib.hid (fun (W : World) (j : Nat) (hj : j < 4294967296) => spreadS_any S j W h32 hj)
  have HQ := Lib.hid (fun j => show spread (els S) j (ones S) < xs.length from by rw [hl]; exact spread_lt _ (lies_els (S := 0) h5' hS fun q _ => Nat.zero_testBit q).below)
  have HV := Lib.hid (fun j => show restV xs S j = xs.getD (spread (els S) j (ones S)) 0 from rfl)
  have ho5 := ones_le5 5 (Nat.le_refl _) S (by omega)
  have hm32 := (isFn_len hf).2
  generalize restV xs S = f at HV ⊢
  generalize ones S = o at *
  generalize els S = es at *
  obtain ⟨m, hm⟩ : ∃ m, xs.length = m := ⟨_, rfl⟩
  have HX := Lib.hid hm
  rw [hm] at HI HQ hm32 ⊢
  obtain ⟨p, hp⟩ : ∃ p, p = 2 ^ o := ⟨_, rfl⟩
  have hp32 : p ≤ 32 := by rw [hp]; exact Nat.le_trans (Nat.pow_le_pow_right (by decide) ho5) (by decide)
  have hsh := shl_at ho5 hp
  rw [← hp]
  clear hf hl hm hp hS h5
  obtain ⟨i0, hi, hz0, hz1, hz2⟩ := info_parts info_int
  go_enter Tryd.func19, Tryd.ntmps19
  go_wp2_with (go_at_call 65; refine St.use (w0 := w) (by exact (HW.out.alloc _ _).alloc _ _) ?_; intro hS; (try simp only [World.size_alloc] at hS); refine (HI.out _ ((h.out.below hS.base).mono hS.size)).mono ?_; rintro e w2 ⟨rfl, hb⟩; have HS := Lib.hid (hS.below hb); clear hS hb)
  go_loopw [6, 7] (fun v i wr => ∃ (j : Nat) (V : Option Addr) (c : Nat), i = .int .i64 j ∧ j ≤ p ∧ v = .slice V j c ∧ St w wr [il (.slice V j c) j (tab j f), bx (w.heap.size + 1) 26 [.int .i64 0, .slice none 0 0], bx w.heap.size 26 [.int .i64 N, .slice A m cap]]) (fun _ i _ => p - (intOf i).toNat)
  case atStart => exact ⟨0, _, _, rfl, Nat.zero_le _, rfl, HS.out.empty⟩
  case round =>
    obtain ⟨j, V, c, rfl, hj, rfl, hS⟩ := hrel
    have HR := Lib.hid hS
    by_cases hlt : j < p
    · obtain ⟨b0, -⟩ := hS.box (i := 2) rfl
      have b01 := b0 1 _ rfl
      have htab := Lib.hid (tab_succ j f)
      have hji : (j : Int) < (p : Int) := by omega
      have hql := HQ.out j
      have hval := HV.out j
      have hcall := fun W => HSP.out W j (by omega)
      generalize spread es j o = q at hql hval hcall
      obtain ⟨b, off, rfl, hbl, hc⟩ := h.out.at_ (k := q) (by rw [HX.out]; exact hql)
      have hcq := (hS.base.cell (p := ⟨b, off + q, none⟩) hbl).trans hc
      rw [← hval] at hc hcq
      generalize f j = x at hc hcq htab
      have HCQ := Lib.hid hc
      have HC := Lib.hid hcall
      have hq0 : (0 : Int) ≤ (q : Int) := by omega
      have hqm : (q : Int) < (m : Int) := by omega
      clear hS b0 hc hval hcall
      go_wp2_with (go_at_call 73; refine (HZ.out _).mono ?_; rintro e w' ⟨rfl, rfl⟩)
      go_region_held3 (fun w' => w'.cell? ⟨w.heap.size, 1, none⟩ = some (.slice (some ⟨b, off, none⟩) m cap) ∧ w'.cell? ⟨b, off + q, none⟩ = some (.int .i64 x)) (first | (refine ⟨?_, ?_⟩ <;> assumption) | assumption | go_keep) (first
        | (go_at_call 74; refine St.use (w0 := w) (by first | exact HR.out | exact HR.out.drew | exact HR.out.drewN _) ?_; intro hS; refine (HC.out _).mono ?_; rintro e wq ⟨rfl, hb⟩; have hS1 := hS.below hb; obtain ⟨b0, -⟩ := hS1.box (i := 2) rfl; have b01' := b0 1 _ rfl; have hcq' := (hS1.base.cell (p := ⟨b, off + q, none⟩) hbl).trans HCQ.out; have HR := Lib.hid hS1; clear hS hb hS1 b0)
        | (refine step_app1 (by rfl) (.tmp 21) (.tmp 29) 24 (by rfl) x Tryd.underlying24 hi hz0 hz1 hz2 (by first | exact (HR.out.alloc _ _).drop 0 | exact ((HR.out.alloc _ _).drop 0).drew) (i := 0) (by rfl) (by rfl) (by rfl) (by simp) (by omega) ?_; intro V' c' w3 hS3; obtain ⟨b0, -⟩ := hS3.box (i := 2) rfl; have b01' := b0 1 _ rfl; have hcq' := (hS3.base.cell (p := ⟨b, off + q, none⟩) hbl).trans HCQ.out; have HR3 := Lib.hid hS3; clear hS3 b0))
      go_wp2
      go_roundw
      case rel => exact ⟨j + 1, V', c', by go_num, by omega, rfl, by rw [htab.out]; exact HR3.out⟩
      case measure => simp [intOf]; omega
    · obtain rfl : j = p := by omega
      have hjn : ¬ (j : Int) < (j : Int) := by omega
      obtain ⟨u0, uf⟩ := hS.box (i := 1) rfl
      have u00 := u0 0 _ rfl
      have u01 := u0 1 _ rfl
      have uf0 := uf 0
      have uf1 := uf 1
      have ul := (hS.lt (i := 1) rfl).2
      clear hS u0 uf
      go_wp2_with (go_at_call 73; refine (HZ.out _).mono ?_; rintro e w' ⟨rfl, rfl⟩)
      have hZ := (HR.out.store (i := 1) rfl 0 (.int .i64 o)).store (i := 1) rfl 1 (.slice V j c)
      have hln : (tab j f).length = j := tab_length _ _
      refine bodyPost_ret (v := .tuple #[.agg #[.int .i64 o, .slice V j c], .bool true]) (by simp [results, Tryd.results19, go_sem, u00, u01, uf0, uf1, ul]) rfl ⟨V, c, by rw [hln], ?_, hZ.base⟩
      have ho := hZ.ownI (i := 0) rfl
      rw [hln]
      exact ho

theorem restS_any (n : Int) (A : Option Addr) (xs : List Int) (cap : Nat) (s : Int) (w : World) (h : Hid (Ints w w.heap.size A xs)) :
    Calls Tryd.prog 19 #[.agg #[.int .i64 n, .slice A xs.length cap], .int .i64 s] w (RetFB w (restrictFn n xs s).1 (restrictFn n xs s).2.1 (restrictFn n xs s).2.2) := by
  unfold restrictFn
  by_cases hh : isFn n xs = true ∧ isSet n s = true
  · rw [if_pos hh]
    obtain ⟨hf, hs⟩ := hh
    obtain ⟨N, rfl⟩ := Int.eq_ofNat_of_zero_le (isFn_yes hf).1
    obtain ⟨s0, s1⟩ := isSet_yes hs
    obtain ⟨S, rfl⟩ := Int.eq_ofNat_of_zero_le s0
    rw [Int.toNat_natCast] at s1 ⊢
    exact restS_good N A xs cap S w h hf (by omega)
  · rw [if_neg hh]
    refine restS_no n A xs cap s w h ?_
    cases hf : isFn n xs <;> cases hs : isSet n s <;> simp_all

end Go.Proofs.YtfpoiiennlhphaaDoor.C
