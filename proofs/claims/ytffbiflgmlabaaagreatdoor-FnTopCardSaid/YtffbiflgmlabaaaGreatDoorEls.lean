/-
  The contracts of ElementsOf, spec and impl, and of what they call.
-/
import Derived.Test.YtffbiflgmlabaaaGreatDoorVal
import Derived.Test.YtffbiflgmlabaaaGreatDoorAllM
import Derived.Shelf.Spec.TrailingZeros
import Derived.Lib.LaidTab
import Derived.Lib.SmallJoins
namespace Go.Proofs.YtffbiflgmlabaaaGreatDoor.C
open Go.RowKit K M
set_option linter.unusedVariables false
set_option linter.unusedSimpArgs false

/-- Where the library's table of trailing zeros reads as it is laid. -/
def Brujn (w : World) : Prop := Lib.TabIs Tryz.prog w "math/bits.deBruijn64tab" .u8 (Lib.deBruijn64tab.map fun n : Nat => (n : Int))
theorem brujn_on {w w' : World} (h : Brujn w) (hb : Below w.heap.size w w') : Brujn w' :=
  Joins.tab_stays (g := 1) (by kernel_rfl) h hb (Nat.le_refl _)

set_option maxHeartbeats 1000000 in
theorem tz64_core (x k idx : Nat) (w : World) (hx0 : ((x : Int) == 0) = false)
    (key : IntKind.u64.wrap (bits BinOp.and IntKind.u64 (x : Int) (IntKind.u64.wrap (-(x : Int))) * 285870213051353865) / 288230376151711744 = (idx : Int))
    (hi : idx < 64) (hk : k < 64) (hcell : w.cell? ⟨1, idx, none⟩ = some (.int .u8 k)) :
    Calls Tryz.prog 105 #[.int .u64 x] w fun e w' => e = .returned (.int .i64 k) ∧ w = w' := by
  go_enter Tryz.func105, Tryz.ntmps105
  go_wp2_with (simp only [key])
  go_ret
  exact ⟨rfl, rfl⟩

theorem brujn_cell {w : World} (h : Brujn w) (idx k : Nat) (hi : idx < 64) (ht : Lib.deBruijn64tab.getD idx 0 = k) : w.cell? ⟨1, idx, none⟩ = some (.int .u8 k) := by
  have hl : idx < (Lib.deBruijn64tab.map fun n : Nat => (n : Int)).length := by
    rw [List.length_map]; exact hi
  have := Lib.TabIs.cell (g := 1) h (by kernel_rfl) idx hl
  rw [this, ← ht]
  have hl2 : idx < Lib.deBruijn64tab.length := hi
  simp only [List.getD_eq_getElem?_getD, List.getElem?_map, List.getElem?_eq_getElem hl2, Option.map_some, Option.getD_some]

theorem tz64_any (x : Nat) (hx : x < 18446744073709551616) (hx0 : x ≠ 0) (w : World) (h : Hid (Brujn w)) :
    Calls Tryz.prog 105 #[.int .u64 x] w fun e w' => e = .returned (.int .i64 (Lib.ctz 64 x)) ∧ w = w' := by
  obtain ⟨hlow, hk⟩ := Lib.lowest_bit 64 x hx0 hx
  obtain ⟨hi, htab⟩ := Lib.deBruijn64_at _ hk
  exact tz64_core x _ _ w (beq_eq_false_iff_ne.2 (by omega)) (tz64_key x _ hx hx0 hlow) hi hk (brujn_cell h.out _ _ hi htab)

theorem tz_any (x : Nat) (hx : x < 18446744073709551616) (hx0 : x ≠ 0) (w : World) (h : Hid (Brujn w)) :
    Calls Tryz.prog 84 #[.int .u64 x] w fun e w' => e = .returned (.int .i64 (Lib.ctz 64 x)) ∧ w = w' := by
  have hw : IntKind.u64.wrap (x : Int) = (x : Int) := by rw [IntKind.wrap_u64]; omega
  go_enter Tryz.func84, Tryz.ntmps84
  go_wp2_with (first | (go_at_call 105; refine (tz64_any x hx hx0 _ h).mono ?_; rintro e w' ⟨rfl, rfl⟩))
  go_ret
  exact ⟨rfl, rfl⟩

theorem and1 (X : Nat) (hX : X < 4294967296) : bits .and .i64 (X : Int) 1 = ((X % 2 : Nat) : Int) := by
  have h1 : (BitVec.ofInt 64 1).toNat = 2 ^ 1 - 1 := by decide
  have ofI : (BitVec.ofInt 64 (X : Int)).toNat = X := by
    rw [BitVec.ofInt_natCast, BitVec.toNat_ofNat]; exact Nat.mod_eq_of_lt (by omega)
  show IntKind.i64.wrap ((BitVec.ofInt 64 (X : Int) &&& BitVec.ofInt 64 1).toNat : Int) = _
  rw [BitVec.toNat_and, ofI, h1, Nat.and_two_pow_sub_one_eq_mod, IntKind.wrap_i64]
  omega
theorem andPred (X : Nat) (h0 : 0 < X) (hX : X < 4294967296) : bits .and .i64 (X : Int) ((X : Int) - 1) = ((X &&& (X - 1) : Nat) : Int) := by
  have ofI : ∀ a : Nat, a < 9223372036854775808 → (BitVec.ofInt 64 (a : Int)).toNat = a := fun a ha => by
    rw [BitVec.ofInt_natCast, BitVec.toNat_ofNat]; exact Nat.mod_eq_of_lt (by omega)
  have e : (X : Int) - 1 = ((X - 1 : Nat) : Int) := by omega
  have hx : X &&& (X - 1) ≤ X := Nat.and_le_left
  show IntKind.i64.wrap ((BitVec.ofInt 64 (X : Int) &&& BitVec.ofInt 64 ((X : Int) - 1)).toNat : Int) = _
  rw [e, BitVec.toNat_and, ofI X (by omega), ofI (X - 1) (by omega), IntKind.wrap_i64]
  omega

set_option maxRecDepth 100000 in
set_option maxHeartbeats 1600000 in
theorem listI_any (S : Nat) (w : World) (hS : S < 1024) (hb : Hid (Brujn w)) :
    Calls Tryz.prog 63 #[.int .i64 S] w (RetI w (els S)) := by
  have HW := Lib.hid (St.start w)
  obtain ⟨i0, hi, hz0, hz1, hz2⟩ := info_parts info_int
  go_enter Tryz.func63, Tryz.ntmps63
  go_wp2
  go_loopw [3, 4] (fun o x wr => ∃ (X n : Nat) (V : Option Addr) (c : Nat) (ys : List Int), x = .int .i64 X ∧ o = .slice V n c ∧ X < 1024 ∧ n ≤ 10 ∧ ys ++ els X = els S ∧ St w wr [il (.slice V n c) n ys]) (fun _ x _ => (intOf x).toNat)
  case atStart => exact ⟨S, 0, _, _, [], rfl, rfl, hS, by omega, rfl, HW.out.nil⟩
  case round =>
    obtain ⟨X, n, V, c, ys, rfl, rfl, hX, hn, he, hS1⟩ := hrel
    have HB := Lib.hid (brujn_on hb.out (hS1.base.mono (Nat.le_refl _)))
    have HS := Lib.hid hS1
    have HE := Lib.hid he
    by_cases h0 : X = 0
    · subst h0
      have hl : ys.length = n := OwnN.len (hS1.own (i := 0) rfl)
      have HL := Lib.hid hl
      clear hS1 he hX hl
      go_wp2
      go_ret
      have ho := HS.out.ownI (i := 0) rfl
      have hf := HE.out
      rw [show els 0 = [] from rfl, List.append_nil] at hf
      rw [← hf]
      exact ⟨V, c, by rw [HL.out]; rfl, by rw [HL.out]; exact ho, HS.out.base⟩
    · have hlow := els_low X hX h0
      have hless := els_less X hX h0
      have hn9 : n + 1 ≤ 10 := by
        have h1 := congrArg List.length he
        have h2 := els_len S
        have h3 : ys.length = n := OwnN.len (hS1.own (i := 0) rfl)
        rw [hlow] at h1
        simp at h1
        omega
      have hap := andPred X (by omega) (by omega)
      have hw64 : IntKind.u64.wrap (X : Int) = (X : Int) := by rw [IntKind.wrap_u64]; omega
      have HLO := Lib.hid hlow
      have hne : ((X : Int) == 0) = false := beq_eq_false_iff_ne.2 (by omega)
      have hne2 : ((X : Int) != 0) = true := bne_iff_ne.2 (by omega)
      have hpos : (1 : Int) ≤ (X : Int) := by omega
      have HT := Lib.hid (tz_any X (by omega) h0 wr HB)
      generalize Lib.ctz 64 X = k at HLO HT
      generalize X &&& (X - 1) = Y at HLO hless hap
      clear hS1 he hlow h0
      go_wp2_with (first
        | (go_at_call 84; refine HT.out.mono ?_; rintro e w' ⟨rfl, rfl⟩)
        | (at_builtin; refine wpList_app1 rfl (.tmp 12) (.tmp 16) 24 rfl (k : Int) Tryz.underlying24 hi hz0 hz1 hz2 ((HS.out.alloc _ _).drop 0) (i := 0) rfl rfl rfl (by simp) (by omega) ?_; intro V' c' w2 hS2; have HS2 := Lib.hid hS2; clear hS2))
      go_roundw
      case rel => exact ⟨Y, n + 1, V', c', ys ++ [(k : Int)], rfl, rfl, by omega, by omega, by rw [List.append_assoc, List.singleton_append, ← HLO.out]; exact HE.out, HS2.out⟩
      case measure => simp [intOf]; omega

end Go.Proofs.YtffbiflgmlabaaaGreatDoor.C
