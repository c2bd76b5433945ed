/-
  The contracts of impl.IsFunction.
-/
import Derived.Test.YtlbefommcahkeaaIsFnS
namespace Go.Proofs.Ytlbefommcahkeaa.C
open Go.RowKit K M
set_option linter.unusedVariables false
set_option linter.unusedSimpArgs false

theorem isFnI_num (n : Int) (A : Option Addr) (m cap : Nat) (w : World) (hn : n < 0 ∨ 5 < n) :
    Calls Try.prog 38 #[.agg #[.int .i64 n, .slice A m cap]] w (RetV w (.bool false)) := by
  by_cases h0 : n < 0
  · clear hn
    go_enter Try.func38, Try.ntmps38
    go_wp2
    go_quiet (fail)
    go_wp2
    go_ret
    exact ⟨rfl, below_drewN ((Below.refl _ _).alloc (Nat.le_refl _) _) _⟩
  · have h1 : decide (n < 0) = false := by simpa using h0
    have h5 : 5 < n := by omega
    clear hn
    go_enter Try.func38, Try.ntmps38
    go_wp2
    go_quiet (fail)
    go_wp2
    go_ret
    exact ⟨rfl, below_drewN ((Below.refl _ _).alloc (Nat.le_refl _) _) _⟩

theorem isFnI_len (n : Int) (A : Option Addr) (m cap : Nat) (w : World) (h0 : 0 ≤ n) (h5 : n ≤ 5) (hm : m ≠ 2 ^ n.toNat) :
    Calls Try.prog 38 #[.agg #[.int .i64 n, .slice A m cap]] w (RetV w (.bool false)) := by
  have hsh := shl_one h0 (by omega) (m := 2 ^ n.toNat) rfl
  have hp := p2_le h0 h5
  generalize 2 ^ n.toNat = p at hsh hm hp
  have hb : ((m : Int) != (p : Int)) = true := bne_iff_ne.2 (by omega)
  have hb2 : ((m : Int) == (p : Int)) = false := beq_eq_false_iff_ne.2 (by omega)
  have h1 : decide (n < 0) = false := by simpa using h0
  have h2 : decide (5 < n) = false := by simpa using h5
  clear hm
  go_enter Try.func38, Try.ntmps38
  go_wp2
  go_quiet (fail)
  go_wp2
  go_ret
  exact ⟨rfl, below_drewN ((Below.refl _ _).alloc (Nat.le_refl _) _) _⟩

set_option maxRecDepth 100000 in
set_option maxHeartbeats 1600000 in
theorem isFnI_loop (n : Int) (A : Option Addr) (xs : List Int) (cap : Nat) (w : World) (h : Hid (Ints w w.heap.size A xs)) (h0 : 0 ≤ n) (h5 : n ≤ 5) (hl : xs.length = 2 ^ n.toNat)
    (j : Nat) (res : Bool) (hj : Hid ((j < xs.length ∧ res = false ∧ (xs.getD j 0 < -1000 ∨ 1000 < xs.getD j 0)) ∨ (j = xs.length ∧ res = true))) (hv : ∀ k, k < j → -1000 ≤ xs.getD k 0 ∧ xs.getD k 0 ≤ 1000) :
    Calls Try.prog 38 #[.agg #[.int .i64 n, .slice A xs.length cap]] w (RetV w (.bool res)) := by
  have hm := p2_le h0 h5
  rw [← hl] at hm
  obtain ⟨hm1, hm2⟩ := hm
  have hsh := shl_one h0 (by omega) hl
  have hjm : j ≤ xs.length := by rcases hj.out with hh | hh <;> omega
  obtain ⟨m, hxm⟩ : ∃ m, xs.length = m := ⟨_, rfl⟩
  rw [hxm] at hsh hm1 hm2 hj hjm ⊢
  have h1 : decide (n < 0) = false := by simpa using h0
  have h2 : decide (5 < n) = false := by simpa using h5
  have HX := Lib.hid hxm
  have HV := Lib.hid hv
  clear hl hxm hv
  go_enter Try.func38, Try.ntmps38
  go_wp2
  go_quiet (fail)
  go_wp2
  clear hsh
  go_loop [4, 25] (fun _ i => ∃ k : Nat, k ≤ j ∧ i = .int .i64 k) (fun _ i => m - (intOf i).toNat)
  case atStart => exact ⟨0, Nat.zero_le _, rfl⟩
  case round =>
    obtain ⟨k, hk, rfl⟩ := hrel
    have hk0 : (0 : Int) ≤ (k : Int) := by omega
    by_cases hlt : k < j
    · obtain ⟨b, off, rfl, hbl, hc⟩ := h.out.at_ (k := k) (by rw [HX.out]; omega)
      have hkn : (k : Int) < (m : Int) := by omega
      obtain ⟨v1, v2⟩ := HV.out k hlt
      generalize xs.getD k 0 = x at hc v1 v2
      have t1 : decide (x < -1000) = false := by simpa using v1
      have t2 : decide (1000 < x) = false := by simpa using v2
      go_wp2
      go_round
      case rel => exact ⟨k + 1, by omega, by go_num⟩
      case measure => simp [intOf]; omega
    · obtain rfl : k = j := by omega
      rcases hj.out with ⟨j1, rfl, jb⟩ | ⟨j1, rfl⟩
      · obtain ⟨b, off, rfl, hbl, hc⟩ := h.out.at_ (k := k) (by rw [HX.out]; omega)
        have hkn : (k : Int) < (m : Int) := by omega
        clear HV hj
        generalize xs.getD k 0 = x at hc jb
        by_cases t0 : x < -1000
        · clear jb
          go_wp2
          go_ret
          exact ⟨rfl, below_drewN ((Below.refl _ _).alloc (Nat.le_refl _) _) _⟩
        · have t1 : decide (x < -1000) = false := by simpa using t0
          have t2 : 1000 < x := by omega
          clear jb
          go_wp2
          go_ret
          exact ⟨rfl, below_drewN ((Below.refl _ _).alloc (Nat.le_refl _) _) _⟩
      · have hkn : ¬ (k : Int) < (m : Int) := by omega
        clear j1 hj HV
        go_wp2
        go_ret
        exact ⟨rfl, below_drewN ((Below.refl _ _).alloc (Nat.le_refl _) _) _⟩

theorem isFnI_any (n : Int) (A : Option Addr) (xs : List Int) (cap : Nat) (w : World) (h : Hid (Ints w w.heap.size A xs)) :
    Calls Try.prog 38 #[.agg #[.int .i64 n, .slice A xs.length cap]] w (RetV w (.bool (isFn n xs))) := by
  cases hf : isFn n xs
  · rcases isFn_no hf with h1 | ⟨h0, h5, hl⟩ | ⟨h0, h5, hl, j, hj, hb, hv⟩
    · exact isFnI_num n A _ cap w h1
    · exact isFnI_len n A _ cap w h0 h5 hl
    · exact isFnI_loop n A xs cap w h h0 h5 hl j false (.inl ⟨hj, rfl, hb⟩) hv
  · obtain ⟨h0, h5, hl, hv⟩ := isFn_yes hf
    exact isFnI_loop n A xs cap w h h0 h5 hl _ true (.inr ⟨rfl, rfl⟩) hv
theorem isFnI_no (n : Int) (A : Option Addr) (xs : List Int) (cap : Nat) (w : World) (h : Hid (Ints w w.heap.size A xs)) (hf : isFn n xs = false) :
    Calls Try.prog 38 #[.agg #[.int .i64 n, .slice A xs.length cap]] w (RetV w (.bool false)) := hf ▸ isFnI_any n A xs cap w h
theorem isFnI_yes (n : Int) (A : Option Addr) (xs : List Int) (cap : Nat) (w : World) (h : Hid (Ints w w.heap.size A xs)) (hf : isFn n xs = true) :
    Calls Try.prog 38 #[.agg #[.int .i64 n, .slice A xs.length cap]] w (RetV w (.bool true)) := hf ▸ isFnI_any n A xs cap w h
theorem isFnI_tab (n : Int) (A : Option Addr) (xs : List Int) (m cap : Nat) (w : World) (hm : xs.length = m) (h : Hid (Ints w w.heap.size A xs)) :
    Calls Try.prog 38 #[.agg #[.int .i64 n, .slice A m cap]] w (RetV w (.bool (isFn n xs))) := by
  subst hm
  exact isFnI_any n A xs cap w h

end Go.Proofs.Ytlbefommcahkeaa.C
