/-
  The contract of spec.ViolationOf.
  The contracts of impl's violates and ViolationOf.
  The contract of impl.ViolationOf.
-/
import Derived.Test.YtffbiflgmlabaaaGreatDoorSub
import Derived.Test.YtffbiflgmlabaaaGreatDoorFunA
import Derived.Test.YtffbiflgmlabaaaGreatDoorFnA
import Derived.WalkMore
namespace Go.Proofs.YtffbiflgmlabaaaGreatDoor.C
open Go.RowKit K M
set_option linter.unusedVariables false
set_option linter.unusedSimpArgs false

theorem _root_.Go.Proofs.YtffbiflgmlabaaaGreatDoor.K.St.lit3 {w0 w : World} {L : List Cel} (h : St w0 w L) (x y z : Int) : St w0 (w.alloc (.cells #[.int .i64 x, .int .i64 y, .int .i64 z] 3)) (il (.slice (some ⟨w.heap.size, 0, none⟩) 3 3) 3 [x, y, z] :: L) := by
  refine h.new ((Below.refl _ _).alloc (Nat.le_refl _) _) ?_
  exact World.ownsRow_lit w #[.int .i64 x, .int .i64 y, .int .i64 z] 3 (Nat.le_refl _) (by unfold maxLen; omega) (by simp)

set_option maxRecDepth 100000 in
set_option maxHeartbeats 1600000 in
theorem violS_bad (n : Int) (A : Option Addr) (xs : List Int) (cap : Nat) (w : World) (h : Hid (Ints w w.heap.size A xs)) (hf : isFn n xs = false) :
    Calls Tryz.prog 7 #[.agg #[.int .i64 n, .slice A xs.length cap]] w (RetIB w [] false) := by
  have HW := Lib.hid (St.start w)
  have HF := Lib.hid hf
  clear hf
  go_enter Tryz.func7, Tryz.ntmps7
  go_wp2
  go_loopw [4] (fun i wr => i = .int .i64 0 ∧ St w wr [bx w.heap.size 26 [.int .i64 n, .slice A xs.length cap]]) (fun _ _ => 0)
  case atStart => exact ⟨rfl, HW.out.alloc _ _⟩
  case round =>
    obtain ⟨rfl, hS⟩ := hrel
    obtain ⟨b0, -⟩ := hS.box (i := 0) rfl
    have b00 := b0 0 _ rfl
    have b01 := b0 1 _ rfl
    have bl := (hS.lt (i := 0) rfl).2
    have HS := Lib.hid hS
    clear b0 hS
    go_wp2_with (go_at_call 11; refine St.use (w0 := w) (by exact HS.out) ?_; intro hS; refine (isFnS_no n A xs cap _ (Lib.hid ((h.out.below hS.base).mono hS.size)) HF.out).mono ?_; rintro e w1 ⟨rfl, hb⟩; have HS1 := Lib.hid (hS.below hb); clear hS hb)
    go_ret2
    exact ⟨_, _, rfl, HS1.out.empty.ownI (i := 0) rfl, HS1.out.empty.base⟩
set_option maxRecDepth 100000 in
set_option maxHeartbeats 8000000 in
theorem violS_good (N : Nat) (A : Option Addr) (xs : List Int) (cap : Nat) (w : World) (h : Hid (Ints w w.heap.size A xs)) (hf : isFn (N : Int) xs = true) :
    Calls Tryz.prog 7 #[.agg #[.int .i64 N, .slice A xs.length cap]] w (RetIB w (viol (N : Int) xs).1 (viol (N : Int) xs).2) := by
  have HW := Lib.hid (St.start w)
  have HF := Lib.hid hf
  have hn5 : N ≤ 5 := by have := (isFn_yes hf).2.1; omega
  have hl2 := (isFn_len hf).2
  obtain ⟨m, hxm⟩ : ∃ m, xs.length = m := ⟨_, rfl⟩
  have h' := Lib.hid (show ∀ W, Ints W W.heap.size A xs → Calls Tryz.prog 11 #[.agg #[.int .i64 N, .slice A m cap]] W (RetV W (.bool true)) from fun W hW => by rw [← hxm]; exact isFnS_yes N A xs cap W (Lib.hid hW) hf)
  have hb' := Lib.hid (show ∀ W (s i k : Nat), Ints W W.heap.size A xs → s < m → i < N → k < N → Calls Tryz.prog 31 #[.slice A m cap, .int .i64 s, .int .i64 i, .int .i64 k] W fun e w' => e = .returned (.bool (decide (xs.getD (s ||| 2 ^ i) 0 + xs.getD (s ||| 2 ^ k) 0 < xs.getD (s ||| 2 ^ i ||| 2 ^ k) 0 + xs.getD s 0))) ∧ ∃ q, W.drewN q = w' from fun W s i k hW hs hi hk => by rw [← hxm]; exact badS_any A xs cap s i k N W (Lib.hid hW) hf (by omega) hi hk)
  rw [hxm] at hl2 ⊢
  have HX := Lib.hid hxm
  clear hf hxm
  go_enter Tryz.func7, Tryz.ntmps7
  go_wp2
  go_loopw [4] (fun i wr => ∃ s : Nat, i = .int .i64 s ∧ s ≤ m ∧ Hid (∀ s', s' < s → violI N xs s' = none) ∧ St w wr [bx w.heap.size 26 [.int .i64 N, .slice A m cap]]) (fun i _ => m - (intOf i).toNat)
  case atStart => exact ⟨0, rfl, Nat.zero_le _, Lib.hid (fun s' hs' => absurd hs' (by omega)), HW.out.alloc _ _⟩
  case round =>
    obtain ⟨s, rfl, hsm, hno, hS⟩ := hrel
    obtain ⟨b0, -⟩ := hS.box (i := 0) rfl
    have b00 := b0 0 _ rfl
    have b01 := b0 1 _ rfl
    have bl := (hS.lt (i := 0) rfl).2
    have HS := Lib.hid hS
    clear b0 hS
    by_cases hlt : s < m
    · have hsi : (s : Int) < (m : Int) := by omega
      go_wp2_with (go_at_call 11; refine St.use (w0 := w) (by exact HS.out) ?_; intro hS; refine (h'.out _ ((h.out.below hS.base).mono hS.size)).mono ?_; rintro e w1 ⟨rfl, hb⟩; have hS1 := hS.below hb; obtain ⟨c0, -⟩ := hS1.box (i := 0) rfl; have c00 := c0 0 _ rfl; have c01 := c0 1 _ rfl; have HS1 := Lib.hid hS1; clear hS hb hS1 c0)
      clear b00 b01
      obtain ⟨wo, rfl⟩ : ∃ wo : World, wo = wr := ⟨_, rfl⟩
      go_loopw [5] (fun x wr => ∃ i : Nat, x = .int .i64 i ∧ i ≤ N ∧ Hid (∀ i', i' < i → violK N xs s i' = none) ∧ St w wr [bx w.heap.size 26 [.int .i64 N, .slice A m cap]]) (fun x _ => N - (intOf x).toNat)
      case atStart => exact ⟨0, rfl, Nat.zero_le _, Lib.hid (fun i' hi' => absurd hi' (by omega)), HS1.out⟩
      case round =>
        obtain ⟨i, rfl, hiN, hno2, hS⟩ := hrel
        obtain ⟨b0, -⟩ := hS.box (i := 0) rfl
        have b00 := b0 0 _ rfl
        have b01 := b0 1 _ rfl
        have HS2 := Lib.hid hS
        clear b0 hS
        by_cases hlt2 : i < N
        · have hii : (i : Int) < (N : Int) := by omega
          go_wp2
          clear b00 b01
          obtain ⟨wo2, rfl⟩ : ∃ wo : World, wo = wr := ⟨_, rfl⟩
          go_loopw [6] (fun x wr => ∃ k : Nat, x = .int .i64 k ∧ k ≤ N ∧ i < k ∧ Hid (∀ k', i < k' → k' < k → bad xs s i k' = false) ∧ St w wr [bx w.heap.size 26 [.int .i64 N, .slice A m cap]]) (fun x _ => N - (intOf x).toNat)
          case atStart => exact ⟨i + 1, by go_num, by omega, by omega, Lib.hid (fun k' h1 h2 => absurd h2 (by omega)), HS2.out⟩
          case round =>
            obtain ⟨k, rfl, hkN, hik, hno3, hS⟩ := hrel
            obtain ⟨b0, -⟩ := hS.box (i := 0) rfl
            have b00 := b0 0 _ rfl
            have b01 := b0 1 _ rfl
            have HS3 := Lib.hid hS
            clear b0 hS
            by_cases hlt3 : k < N
            · have hki : (k : Int) < (N : Int) := by omega
              have hi0 : (0 : Int) ≤ (i : Int) := by omega
              have hk0 : (0 : Int) ≤ (k : Int) := by omega
              have e1 := bit_val s i (by omega)
              have e2 := bit_val s k (by omega)
              have nextR := Lib.hid (show bad xs s i k = false → ∀ k', i < k' → k' < k + 1 → bad xs s i k' = false from fun hb k' h1 h2 => by
                by_cases e : k' = k
                · subst e; exact hb
                · exact hno3.out k' h1 (by omega))
              by_cases t1 : s.testBit i = true
              · have hbad := nextR.out (by simp [bad, t1])
                have HB := Lib.hid hbad
                rw [if_pos t1] at e1
                clear hbad nextR e2
                go_wp2
                go_roundw
                case rel => exact ⟨k + 1, by go_num, by omega, by omega, HB, HS3.out⟩
                case measure => simp [intOf]; omega
              · by_cases t2 : s.testBit k = true
                · have hbad := nextR.out (by simp [bad, t2])
                  have HB := Lib.hid hbad
                  rw [if_neg t1] at e1
                  rw [if_pos t2] at e2
                  clear hbad nextR
                  go_wp2
                  go_roundw
                  case rel => exact ⟨k + 1, by go_num, by omega, by omega, HB, HS3.out⟩
                  case measure => simp [intOf]; omega
                · rw [if_neg t1] at e1
                  rw [if_neg t2] at e2
                  have hc := fun W (hW : Ints W W.heap.size A xs) => hb'.out W s i k hW hlt hlt2 hlt3
                  have heq : bad xs s i k = decide (xs.getD (s ||| 2 ^ i) 0 + xs.getD (s ||| 2 ^ k) 0 < xs.getD (s ||| 2 ^ i ||| 2 ^ k) 0 + xs.getD s 0) := by simp [bad, t1, t2]
                  rw [← heq] at hc
                  clear heq
                  have HC := Lib.hid hc
                  clear hc
                  cases hbk : bad xs s i k
                  · have hbad := nextR.out hbk
                    have HB := Lib.hid hbad
                    rw [hbk] at HC
                    clear hbad nextR hbk
                    go_wp2_with (go_at_call 31; refine St.use (w0 := w) (by first | exact HS3.out | exact HS3.out.drew | exact HS3.out.drewN _) ?_; intro hS; refine (HC.out _ ((h.out.below hS.base).mono hS.size)).mono ?_; rintro e w1 ⟨rfl, q, rfl⟩; clear hS)
                    go_roundw
                    case rel => exact ⟨k + 1, by go_num, by omega, by omega, HB, HS3.out.drewN _⟩
                    case measure => simp [intOf]; omega
                  · have hv := viol_hit (HF.out) (s := s) (i := i) (k := k) (by rw [HX.out]; omega) hlt2 hlt3 hik hno.out hno2.out hno3.out hbk
                    have HV := Lib.hid hv
                    rw [hbk] at HC
                    clear hv nextR hbk
                    go_wp2_with (go_at_call 31; refine St.use (w0 := w) (by first | exact HS3.out | exact HS3.out.drew | exact HS3.out.drewN _) ?_; intro hS; refine (HC.out _ ((h.out.below hS.base).mono hS.size)).mono ?_; rintro e w1 ⟨rfl, q, rfl⟩; clear hS)
                    go_ret2
                    rw [HV.out]
                    have hE := (HS3.out.drewN q).lit3 (s : Int) (i : Int) (k : Int)
                    exact ⟨_, _, rfl, hE.ownI (i := 0) rfl, hE.base⟩
            · obtain rfl : k = N := by omega
              have hkn : ¬ (k : Int) < (k : Int) := by omega
              go_wp2
              go_roundw
              case rel => exact ⟨i + 1, by go_num, by omega, Lib.hid (fun i' hi' => by
                by_cases e : i' = i
                · subst e; exact violK_none fun k' h1 h2 => hno3.out k' h1 h2
                · exact hno2.out i' (by omega)), HS3.out⟩
              case measure => simp [intOf]; omega
        · obtain rfl : i = N := by omega
          have hin : ¬ (i : Int) < (i : Int) := by omega
          go_wp2
          go_roundw
          case rel => exact ⟨s + 1, by go_num, by omega, Lib.hid (fun s' hs' => by
            by_cases e : s' = s
            · subst e; exact violI_none hno2.out
            · exact hno.out s' (by omega)), HS2.out⟩
          case measure => simp [intOf]; omega
    · obtain rfl : s = m := by omega
      have hsn : ¬ (s : Int) < (s : Int) := by omega
      have hv := viol_none (n := N) (xs := xs) fun s' hs' => hno.out s' (by rw [HX.out] at hs'; exact hs')
      have HV := Lib.hid hv
      clear hv
      go_wp2_with (go_at_call 11; refine St.use (w0 := w) (by exact HS.out) ?_; intro hS; refine (h'.out _ ((h.out.below hS.base).mono hS.size)).mono ?_; rintro e w1 ⟨rfl, hb⟩; have hS1 := hS.below hb; obtain ⟨c0, -⟩ := hS1.box (i := 0) rfl; have c00 := c0 0 _ rfl; have c01 := c0 1 _ rfl; have HS1 := Lib.hid hS1; clear hS hb hS1 c0)
      go_ret2
      rw [HV.out]
      exact ⟨_, _, rfl, HS1.out.empty.ownI (i := 0) rfl, HS1.out.empty.base⟩

theorem violS_any (n : Int) (A : Option Addr) (xs : List Int) (cap : Nat) (w : World) (h : Hid (Ints w w.heap.size A xs)) :
    Calls Tryz.prog 7 #[.agg #[.int .i64 n, .slice A xs.length cap]] w (RetIB w (viol n xs).1 (viol n xs).2) := by
  cases hf : isFn n xs
  · rw [viol_no hf]
    exact violS_bad n A xs cap w h hf
  · obtain ⟨N, rfl⟩ := Int.eq_ofNat_of_zero_le (isFn_yes hf).1
    exact violS_good N A xs cap w h hf

end Go.Proofs.YtffbiflgmlabaaaGreatDoor.C

namespace Go.Proofs.YtffbiflgmlabaaaGreatDoor.C
open Go.RowKit K M
set_option linter.unusedVariables false
set_option linter.unusedSimpArgs false

theorem or_in {s i : Nat} (h : s.testBit i = true) : s ||| 2 ^ i = s := by
  apply Nat.eq_of_testBit_eq
  intro j
  rw [Nat.testBit_or, Nat.testBit_two_pow]
  by_cases e : i = j
  · subst e; simp [h]
  · simp [e]
theorem or_swap (s i k : Nat) : s ||| 2 ^ i ||| 2 ^ k = s ||| 2 ^ k ||| 2 ^ i := by
  apply Nat.eq_of_testBit_eq
  intro j
  simp only [Nat.testBit_or]
  cases s.testBit j <;> cases (2 ^ i).testBit j <;> cases (2 ^ k).testBit j <;> rfl
/-- The test without a look at whether the elements are in the set. -/
theorem bad_plain (xs : List Int) (s i k : Nat) : decide (xs.getD (s ||| 2 ^ i) 0 + xs.getD (s ||| 2 ^ k) 0 < xs.getD (s ||| 2 ^ i ||| 2 ^ k) 0 + xs.getD s 0) = bad xs s i k := by
  unfold bad
  cases h1 : s.testBit i
  · cases h2 : s.testBit k
    · simp
    · rw [or_swap, or_in h2]
      simp
  · rw [or_in h1]
    simp
    omega

set_option maxRecDepth 100000 in
set_option maxHeartbeats 1600000 in
theorem vioI_any (A : Option Addr) (xs : List Int) (cap s i k n : Nat) (w : World) (h : Hid (Ints w w.heap.size A xs)) (hf : isFn (n : Int) xs = true) (hs : s < xs.length) (hi : i < n) (hk : k < n) :
    Calls Tryz.prog 30 #[.agg #[.int .i64 n, .slice A xs.length cap], .int .i64 s, .int .i64 i, .int .i64 k] w (RetV w (.bool (bad xs s i k))) := by
  rw [← bad_plain]
  have HW := Lib.hid (St.start w)
  obtain ⟨h0, h5, hl, hv⟩ := isFn_yes hf
  rw [Int.toNat_natCast] at hl
  have hm := (isFn_len hf).2
  have hsn : s < 2 ^ n := by omega
  have hin : 2 ^ i < 2 ^ n := Nat.pow_lt_pow_right (by decide) hi
  have hkn : 2 ^ k < 2 ^ n := Nat.pow_lt_pow_right (by decide) hk
  have a1 := Nat.or_lt_two_pow hsn hin
  have a2 := Nat.or_lt_two_pow hsn hkn
  have a3 := Nat.or_lt_two_pow a1 hkn
  rw [← hl] at a1 a2 a3
  have q1 : ∀ W, Calls Tryz.prog 55 #[.int .i64 s, .int .i64 i] W fun e' w' => e' = .returned (.int .i64 (s ||| 2 ^ i : Nat)) ∧ W = w' := fun W => with_any (s : Int) (i : Int) W (by omega) (by omega) (by omega) (by omega)
  have q2 : ∀ W, Calls Tryz.prog 55 #[.int .i64 s, .int .i64 k] W fun e' w' => e' = .returned (.int .i64 (s ||| 2 ^ k : Nat)) ∧ W = w' := fun W => with_any (s : Int) (k : Int) W (by omega) (by omega) (by omega) (by omega)
  have q3 : ∀ W, Calls Tryz.prog 55 #[.int .i64 (s ||| 2 ^ i : Nat), .int .i64 k] W fun e' w' => e' = .returned (.int .i64 (s ||| 2 ^ i ||| 2 ^ k : Nat)) ∧ W = w' := fun W => with_any ((s ||| 2 ^ i : Nat) : Int) (k : Int) W (by omega) (by omega) (by omega) (by omega)
  obtain ⟨b, off, rfl, hbl, hc⟩ := h.out (by omega)
  have c0 := hc s hs
  have c1 := hc _ a1
  have c2 := hc _ a2
  have c3 := hc _ a3
  obtain ⟨u0, v0⟩ := hv s hs
  obtain ⟨u1, v1⟩ := hv _ a1
  obtain ⟨u2, v2⟩ := hv _ a2
  obtain ⟨u3, v3⟩ := hv _ a3
  clear hc hv hl hsn hin hkn hf
  generalize s ||| 2 ^ i ||| 2 ^ k = j3 at *
  generalize s ||| 2 ^ i = j1 at *
  generalize s ||| 2 ^ k = j2 at *
  have Q1 := Lib.hid q1
  have Q2 := Lib.hid q2
  have Q3 := Lib.hid q3
  generalize xs.getD s 0 = x0 at *
  generalize xs.getD j1 0 = x1 at *
  generalize xs.getD j2 0 = x2 at *
  generalize xs.getD j3 0 = x3 at *
  generalize xs.length = m at *
  have s0 : (0 : Int) ≤ (s : Int) := by omega
  have s1 : (s : Int) < (m : Int) := by omega
  have t1 : (j1 : Int) < (m : Int) := by omega
  have t2 : (j2 : Int) < (m : Int) := by omega
  have t3 : (j3 : Int) < (m : Int) := by omega
  have p1 : (0 : Int) ≤ (j1 : Int) := by omega
  have p2 : (0 : Int) ≤ (j2 : Int) := by omega
  have p3 : (0 : Int) ≤ (j3 : Int) := by omega
  have w1 : IntKind.i64.wrap (x1 + x2) = x1 + x2 := IntWalk.i64_in _ (by omega)
  have w2 : IntKind.i64.wrap (x3 + x0) = x3 + x0 := IntWalk.i64_in _ (by omega)
  clear h q1 q2 q3
  go_enter Tryz.func30, Tryz.ntmps30
  go_wp2
  go_quiet ((go_at_call 55; first | exact quiet_left (Q1.out _) | exact quiet_left (Q2.out _) | exact quiet_left (Q3.out _) | exact quiet_add_left (Q1.out _) | exact quiet_add_left (Q2.out _) | exact quiet_add_left (Q3.out _)))
  go_wp2
  go_ret
  exact ⟨rfl, ((HW.out.alloc _ _).drewN _).base⟩


end Go.Proofs.YtffbiflgmlabaaaGreatDoor.C

namespace Go.Proofs.YtffbiflgmlabaaaGreatDoor.C
open Go.RowKit K M
set_option linter.unusedVariables false
set_option linter.unusedSimpArgs false

set_option maxRecDepth 100000 in
set_option maxHeartbeats 1600000 in
theorem violI_bad (n : Int) (A : Option Addr) (xs : List Int) (cap : Nat) (w : World) (h : Hid (Ints w w.heap.size A xs)) (hf : isFn n xs = false) :
    Calls Tryz.prog 6 #[.agg #[.int .i64 n, .slice A xs.length cap]] w (RetIB w [] false) := by
  have HW := Lib.hid (St.start w)
  have HF := Lib.hid hf
  clear hf
  go_enter Tryz.func6, Tryz.ntmps6
  go_wp2
  go_step3
  go_wp2_with fail
  refine St.use (w0 := w) (by exact HW.out.alloc _ _) ?_
  intro hS
  refine (isFnI_no n A xs cap _ (Lib.hid ((h.out.below hS.base).mono hS.size)) HF.out).mono ?_
  rintro e w1 ⟨rfl, hb⟩
  have HS1 := Lib.hid (hS.below hb)
  clear hS hb
  go_wp2
  rw [Exit.noGoto_ret]
  go_ret2
  exact ⟨_, _, rfl, HS1.out.nil.ownI (i := 0) rfl, HS1.out.nil.base⟩

set_option maxRecDepth 100000 in
set_option maxHeartbeats 8000000 in
theorem violI_good (N : Nat) (A : Option Addr) (xs : List Int) (cap : Nat) (w : World) (h : Hid (Ints w w.heap.size A xs)) (hf : isFn (N : Int) xs = true) :
    Calls Tryz.prog 6 #[.agg #[.int .i64 N, .slice A xs.length cap]] w (RetIB w (viol (N : Int) xs).1 (viol (N : Int) xs).2) := by
  have HW := Lib.hid (St.start w)
  have HF := Lib.hid hf
  have hn5 : N ≤ 5 := by have := (isFn_yes hf).2.1; omega
  have hl2 := (isFn_len hf).2
  obtain ⟨m, hxm⟩ : ∃ m, xs.length = m := ⟨_, rfl⟩
  have h' := Lib.hid (show ∀ W, Ints W W.heap.size A xs → Calls Tryz.prog 29 #[.agg #[.int .i64 N, .slice A m cap]] W (RetV W (.bool true)) from fun W hW => by rw [← hxm]; exact isFnI_yes N A xs cap W (Lib.hid hW) hf)
  have hb' := Lib.hid (show ∀ W (s i k : Nat), Ints W W.heap.size A xs → s < m → i < N → k < N → Calls Tryz.prog 30 #[.agg #[.int .i64 N, .slice A m cap], .int .i64 s, .int .i64 i, .int .i64 k] W (RetV W (.bool (bad xs s i k))) from fun W s i k hW hs hi hk => by rw [← hxm]; exact vioI_any A xs cap s i k N W (Lib.hid hW) hf (by omega) hi hk)
  rw [hxm] at hl2 ⊢
  have HX := Lib.hid hxm
  clear hf hxm
  go_enter Tryz.func6, Tryz.ntmps6
  go_wp2
  go_step3
  go_wp2_with fail
  refine St.use (w0 := w) (by exact HW.out.alloc _ _) ?_
  intro hS
  refine (h'.out _ ((h.out.below hS.base).mono hS.size)).mono ?_
  rintro e w1 ⟨rfl, hb⟩
  have hS1 := hS.below hb
  obtain ⟨b0, -⟩ := hS1.box (i := 0) rfl
  have b00 := b0 0 _ rfl
  have b01 := b0 1 _ rfl
  have HS1 := Lib.hid hS1
  clear hS hb b0 hS1
  go_wp2
  go_step3
  go_wp2
  clear b00 b01
  go_loopw [4, 14] (fun v i wr => v = .slice none 0 0 ∧ ∃ s : Nat, i = .int .i64 s ∧ s ≤ m ∧ Hid (∀ s', s' < s → violI N xs s' = none) ∧ St w wr [bx w.heap.size 26 [.int .i64 N, .slice A m cap]]) (fun _ i _ => m - (intOf i).toNat)
  case atStart => exact ⟨rfl, 0, rfl, Nat.zero_le _, Lib.hid (fun s' hs' => absurd hs' (by omega)), HS1.out⟩
  case round =>
    obtain ⟨rfl, s, rfl, hsm, hno, hS⟩ := hrel
    obtain ⟨b0, -⟩ := hS.box (i := 0) rfl
    have b00 := b0 0 _ rfl
    have b01 := b0 1 _ rfl
    have HS := Lib.hid hS
    clear b0 hS
    by_cases hlt : s < m
    · have hsi : (s : Int) < (m : Int) := by omega
      go_wp2
      clear b00 b01
      obtain ⟨wo, rfl⟩ : ∃ wo : World, wo = wr := ⟨_, rfl⟩
      go_loopw [4, 19] (fun v x wr => v = .slice none 0 0 ∧ ∃ i : Nat, x = .int .i64 i ∧ i ≤ N ∧ Hid (∀ i', i' < i → violK N xs s i' = none) ∧ St w wr [bx w.heap.size 26 [.int .i64 N, .slice A m cap]]) (fun _ x _ => N - (intOf x).toNat)
      case atStart => exact ⟨rfl, 0, rfl, Nat.zero_le _, Lib.hid (fun i' hi' => absurd hi' (by omega)), HS.out⟩
      case round =>
        obtain ⟨rfl, i, rfl, hiN, hno2, hS⟩ := hrel
        obtain ⟨b0, -⟩ := hS.box (i := 0) rfl
        have b00 := b0 0 _ rfl
        have b01 := b0 1 _ rfl
        have HS2 := Lib.hid hS
        clear b0 hS
        by_cases hlt2 : i < N
        · have hii : (i : Int) < (N : Int) := by omega
          go_wp2
          clear b00 b01
          obtain ⟨wo2, rfl⟩ : ∃ wo : World, wo = wr := ⟨_, rfl⟩
          go_loopw [4, 7] (fun v x wr => v = .slice none 0 0 ∧ ∃ k : Nat, x = .int .i64 k ∧ k ≤ N ∧ i < k ∧ Hid (∀ k', i < k' → k' < k → bad xs s i k' = false) ∧ St w wr [bx w.heap.size 26 [.int .i64 N, .slice A m cap]]) (fun _ x _ => N - (intOf x).toNat)
          case atStart => exact ⟨rfl, i + 1, by go_num, by omega, by omega, Lib.hid (fun k' h1 h2 => absurd h2 (by omega)), HS2.out⟩
          case round =>
            obtain ⟨rfl, k, rfl, hkN, hik, hno3, hS⟩ := hrel
            obtain ⟨b0, -⟩ := hS.box (i := 0) rfl
            have b00 := b0 0 _ rfl
            have b01 := b0 1 _ rfl
            have HS3 := Lib.hid hS
            clear b0 hS
            by_cases hlt3 : k < N
            · have hki : (k : Int) < (N : Int) := by omega
              have nextR := Lib.hid (show bad xs s i k = false → ∀ k', i < k' → k' < k + 1 → bad xs s i k' = false from fun hb k' h1 h2 => by
                by_cases e : k' = k
                · subst e; exact hb
                · exact hno3.out k' h1 (by omega))
              have hc := fun W (hW : Ints W W.heap.size A xs) => hb'.out W s i k hW hlt hlt2 hlt3
              cases hbk : bad xs s i k
              · have HB := Lib.hid (nextR.out hbk)
                rw [hbk] at hc
                have HC := Lib.hid hc
                clear nextR hbk hc
                go_wp2_with (go_at_call 30; refine St.use (w0 := w) (by exact HS3.out) ?_; intro hS; refine (HC.out _ ((h.out.below hS.base).mono hS.size)).mono ?_; rintro e w1 ⟨rfl, hb⟩; have HS4 := Lib.hid (hS.below hb); clear hS hb)
                go_roundw
                case rel => exact ⟨rfl, k + 1, by go_num, by omega, by omega, HB, HS4.out⟩
                case measure => simp [intOf]; omega
              · have HV := Lib.hid (viol_hit (HF.out) (s := s) (i := i) (k := k) (by rw [HX.out]; omega) hlt2 hlt3 hik hno.out hno2.out hno3.out hbk)
                rw [hbk] at hc
                have HC := Lib.hid hc
                clear nextR hbk hc
                go_wp2_with (go_at_call 30; refine St.use (w0 := w) (by exact HS3.out) ?_; intro hS; refine (HC.out _ ((h.out.below hS.base).mono hS.size)).mono ?_; rintro e w1 ⟨rfl, hb⟩; have HS4 := Lib.hid (hS.below hb); clear hS hb)
                rw [Exit.noGoto_ret]
                go_ret2
                rw [HV.out]
                have hE := HS4.out.lit3 (s : Int) (i : Int) (k : Int)
                exact ⟨_, _, rfl, hE.ownI (i := 0) rfl, hE.base⟩
            · obtain rfl : k = N := by omega
              have hkn : ¬ (k : Int) < (k : Int) := by omega
              go_wp2
              go_roundw
              case rel => exact ⟨rfl, i + 1, by go_num, by omega, Lib.hid (fun i' hi' => by
                by_cases e : i' = i
                · subst e; exact violK_none fun k' h1 h2 => hno3.out k' h1 h2
                · exact hno2.out i' (by omega)), HS3.out⟩
              case measure => simp [intOf]; omega
        · obtain rfl : i = N := by omega
          have hin : ¬ (i : Int) < (i : Int) := by omega
          go_wp2
          go_roundw
          case rel => exact ⟨rfl, s + 1, by go_num, by omega, Lib.hid (fun s' hs' => by
            by_cases e : s' = s
            · subst e; exact violI_none hno2.out
            · exact hno.out s' (by omega)), HS2.out⟩
          case measure => simp [intOf]; omega
    · obtain rfl : s = m := by omega
      have hsn : ¬ (s : Int) < (s : Int) := by omega
      have hv := viol_none (n := N) (xs := xs) fun s' hs' => hno.out s' (by rw [HX.out] at hs'; exact hs')
      have HV := Lib.hid hv
      clear hv
      go_wp2
      go_ret2
      rw [HV.out]
      exact ⟨_, _, rfl, HS.out.nil.ownI (i := 0) rfl, HS.out.nil.base⟩

theorem violI_any (n : Int) (A : Option Addr) (xs : List Int) (cap : Nat) (w : World) (h : Hid (Ints w w.heap.size A xs)) :
    Calls Tryz.prog 6 #[.agg #[.int .i64 n, .slice A xs.length cap]] w (RetIB w (viol n xs).1 (viol n xs).2) := by
  cases hf : isFn n xs
  · rw [viol_no hf]
    exact violI_bad n A xs cap w h hf
  · obtain ⟨N, rfl⟩ := Int.eq_ofNat_of_zero_le (isFn_yes hf).1
    exact violI_good N A xs cap w h hf


end Go.Proofs.YtffbiflgmlabaaaGreatDoor.C
