/-
  The contracts of spec.FormatInt and impl.FormatInt, and of the law that compares them.
-/
import Derived.Test.YtielfnjkfceliaaGreatDoorMathF
import Derived.Test.YtielfnjkfceliaaGreatDoorDecFix
import Derived.Test.YtielfnjkfceliaaGreatDoorEncFix
import Derived.Test.YtielfnjkfceliaaGreatDoorHexD
import Derived.Test.YtielfnjkfceliaaGreatDoorShelf
import Derived.Lib.SmallJoins
namespace Go.Proofs.YtielfnjkfceliaaGreatDoor.C
open Go.RowKit M K
open Go.Lib (decDigits itoa nDigits)
set_option linter.unusedVariables false

theorem str_cons (x : UInt8) (l : List UInt8) : Value.string ((⟨#[x]⟩ : ByteArray) ++ ⟨l.toArray⟩) = .string ⟨(x :: l).toArray⟩ := by
  simp [ByteArray.ext_iff]

theorem ret_str {x : UInt8} {l k : List UInt8} (h : k = x :: l) : Ending.returned (.string ((⟨#[x]⟩ : ByteArray) ++ ⟨l.toArray⟩)) = .returned (.string ⟨k.toArray⟩) := by
  rw [h, str_cons]

set_option maxHeartbeats 800000 in
theorem sfi_pos (M : Nat) (w : World) (h1 : 0 < M) (h2 : M ≤ 9223372036854775807) :
    Calls Tryz.prog 49 #[.int .i64 M] w fun e w' => e = .returned (.string ⟨(itoa M).toArray⟩) ∧ Below w.heap.size w w' := by
  have d1 : ((M : Int) == 0) = false := by simp; omega
  have d2 : decide ((M : Int) < 0) = false := by simp
  go_enter Tryz.func49, Tryz.ntmps49
  go_wp2
  go_loopw [0, 3, 5] (fun v o _ wr => ∃ (m : Nat) (out : List UInt8), v = .int .i64 m ∧ o = .string ⟨out.toArray⟩ ∧ Num M m out ∧ Below w.heap.size w wr)
                 (fun v _ _ _ => (intOf v).toNat)
  case atStart => exact ⟨M, [], rfl, rfl, Num.start M h1, Below.refl _ _⟩
  case round =>
    obtain ⟨m, out, rfl, rfl, hn, hb⟩ := hrel
    have hmM : m ≤ 9223372036854775807 := Nat.le_trans hn.2 h2
    have hl := hn.len (by omega)
    have HN := Lib.hid hn
    clear hn
    by_cases hm : 0 < m
    · have e1 : ((m : Int) != 0) = true := by simp; omega
      have e2 : decide ((m : Int) % 10 < 0) = false := by simp; omega
      have kc := conv_byte (P := Tryz.prog) wr 22 9 5 (48 + (m : Int) % 10) Tryz.underlying22 Tryz.underlying5 Tryz.underlying9 (by omega) (by omega)
      rw [dgt_of _ (m % 10) (by omega)] at kc
      go_wp2
      go_roundw
      case rel => exact ⟨m / 10, dgt (m % 10) :: out, by go_num, by simp [ByteArray.ext_iff], HN.out.step hm, hb.alloc hb.size _⟩
      case measure => simp [intOf]; omega
    · obtain rfl : m = 0 := by omega
      go_wp2
      go_ret
      exact ⟨by rw [Lib.itoa_nonneg, ← HN.out.stop]; rfl, hb⟩

set_option maxHeartbeats 800000 in
theorem sfi_neg (M : Nat) (w : World) (h1 : 0 < M) (h2 : M ≤ 9223372036854775808) :
    Calls Tryz.prog 49 #[.int .i64 (-(M : Int))] w fun e w' => e = .returned (.string ⟨(itoa (-(M : Int))).toArray⟩) ∧ Below w.heap.size w w' := by
  have d1 : (-(M : Int) == 0) = false := by simp; omega
  have d2 : decide (-(M : Int) < 0) = true := by simp; omega
  go_enter Tryz.func49, Tryz.ntmps49
  go_wp2
  go_loopw [0, 3, 5] (fun v o _ wr => ∃ (m : Nat) (out : List UInt8), v = .int .i64 (-(m : Int)) ∧ o = .string ⟨out.toArray⟩ ∧ Num M m out ∧ Below w.heap.size w wr)
                 (fun v _ _ _ => (-(intOf v)).toNat)
  case atStart => exact ⟨M, [], rfl, rfl, Num.start M h1, Below.refl _ _⟩
  case round =>
    obtain ⟨m, out, rfl, rfl, hn, hb⟩ := hrel
    have hmM : m ≤ 9223372036854775808 := Nat.le_trans hn.2 h2
    have hl := hn.len h2
    have HN := Lib.hid hn
    clear hn
    by_cases hm : 0 < m
    · have e1 : (-(m : Int) != 0) = true := by simp; omega
      have t1 : (-(m : Int)).tmod 10 = -((m % 10 : Nat) : Int) := by rw [Int.neg_tmod, Int.tmod_eq_emod_of_nonneg (by omega)]; simp
      have t2 : (-(m : Int)).tdiv 10 = -((m / 10 : Nat) : Int) := by rw [Int.neg_tdiv, Int.tdiv_eq_ediv_of_nonneg (by omega)]; simp
      have kc := conv_byte (P := Tryz.prog) wr 22 9 5 (48 + ((m % 10 : Nat) : Int)) Tryz.underlying22 Tryz.underlying5 Tryz.underlying9 (by omega) (by omega)
      rw [dgt_of _ (m % 10) rfl] at kc
      obtain ⟨c, hc⟩ : ∃ c, m % 10 = c := ⟨_, rfl⟩
      obtain ⟨q, hq⟩ : ∃ q, m / 10 = q := ⟨_, rfl⟩
      have hstep := HN.out.step hm
      rw [hc, hq] at hstep
      rw [hc] at t1 kc
      rw [hq] at t2
      have hc9 : c ≤ 9 := by omega
      have hqm : q < m := by omega
      have HS := Lib.hid hstep
      clear hstep hc hq
      by_cases hc0 : 0 < c
      · go_wp2
        go_roundw
        case rel => exact ⟨q, dgt c :: out, rfl, str_cons _ _, HS.out, hb.alloc hb.size _⟩
        case measure => simp [intOf]; omega
      · have kc2 := conv_byte (P := Tryz.prog) wr 22 9 5 (48 + -(c : Int)) Tryz.underlying22 Tryz.underlying5 Tryz.underlying9 (by omega) (by omega)
        rw [dgt_of (-(c : Int)) c (by omega)] at kc2
        clear kc
        go_wp2
        go_roundw
        case rel => exact ⟨q, dgt c :: out, rfl, str_cons _ _, HS.out, hb.alloc hb.size _⟩
        case measure => simp [intOf]; omega
    · obtain rfl : m = 0 := by omega
      go_wp2
      go_ret
      exact ⟨ret_str (by rw [Lib.itoa_neg M h1, ← HN.out.stop]), hb⟩

theorem sfi_zero (w : World) : Calls Tryz.prog 49 #[.int .i64 0] w fun e w' => e = .returned (.string ⟨(itoa 0).toArray⟩) ∧ Below w.heap.size w w' := by
  go_enter Tryz.func49, Tryz.ntmps49
  go_wp2
  go_ret
  exact ⟨by rw [show itoa 0 = [48] by rw [show (0 : Int) = ((0 : Nat) : Int) from rfl, Lib.itoa_nonneg, Lib.decDigits_one (by decide)]; rfl]; rfl, Below.refl _ _⟩

theorem sfi_any (n : Int) (w : World) (h1 : -9223372036854775808 ≤ n) (h2 : n ≤ 9223372036854775807) :
    Calls Tryz.prog 49 #[.int .i64 n] w fun e w' => e = .returned (.string ⟨(itoa n).toArray⟩) ∧ Below w.heap.size w w' := by
  by_cases h : n = 0
  · subst h; exact sfi_zero w
  · by_cases hp : 0 < n
    · obtain ⟨M, rfl⟩ := Int.eq_ofNat_of_zero_le (show 0 ≤ n by omega)
      exact sfi_pos M w (by omega) (by omega)
    · obtain ⟨M, hM⟩ := Int.eq_ofNat_of_zero_le (show 0 ≤ -n by omega)
      obtain rfl : n = -(M : Int) := by omega
      exact sfi_neg M w (by omega) (by omega)

theorem below_grow {w : World} {k : Nat} {os : Array Obj} : Below w.heap.size w (Sort.grow (w.drewN k) os) :=
  ⟨rfl, rfl, rfl, by simp [Sort.grow], fun i hi => Sort.heap_grow_old (w.drewN k) os hi⟩

/-- Where the library's table reads as it is laid. -/
def Tab (w : World) : Prop := Lib.TabIs Tryz.prog w "internal/strconv.uint64pow10" .u64 Lib.pow10Tab

theorem ifi_any (n : Int) (w : World) (h1 : -9223372036854775808 ≤ n) (h2 : n ≤ 9223372036854775807) (ht : Hid (Tab w)) :
    Calls Tryz.prog 44 #[.int .i64 n] w fun e w' => e = .returned (.string ⟨(itoa n).toArray⟩) ∧ Below w.heap.size w w' := by
  go_enter Tryz.func44, Tryz.ntmps44
  go_wp2_with fail
  refine (Tryz.strconv_Itoa n h1 h2 _ ht.out).mono ?_
  rintro e w' ⟨rfl, k, os, rfl⟩
  go_wp2
  go_ret
  exact ⟨rfl, below_grow⟩

theorem tab_on {w w' : World} (h : Tab w) (hb : Below w.heap.size w w') : Tab w' :=
  Joins.tab_stays (g := 3) (by kernel_rfl) h hb (Nat.le_refl _)

end Go.Proofs.YtielfnjkfceliaaGreatDoor.C
