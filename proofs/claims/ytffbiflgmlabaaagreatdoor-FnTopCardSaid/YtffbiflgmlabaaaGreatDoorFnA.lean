/-
  The contracts of spec.IsFunction and of what it calls.
  The contracts of impl.IsFunction.
-/
import Derived.Test.YtffbiflgmlabaaaGreatDoorBase
import Derived.Test.YtffbiflgmlabaaaGreatDoorAllM
namespace Go.Proofs.YtffbiflgmlabaaaGreatDoor.C
open Go.RowKit K M
set_option linter.unusedVariables false
set_option linter.unusedSimpArgs false

theorem in_yes (x a b : Int) (w : World) (h1 : a ≤ x) (h2 : x ≤ b) : Calls Tryz.prog 32 #[.int .i64 x, .int .i64 a, .int .i64 b] w fun e w' => e = .returned (.bool true) ∧ w = w' := by
  go_enter Tryz.func32, Tryz.ntmps32
  go_wp2
  go_ret
  exact ⟨rfl, rfl⟩

theorem in_no (x a b : Int) (w : World) (h : x < a ∨ b < x) : Calls Tryz.prog 32 #[.int .i64 x, .int .i64 a, .int .i64 b] w fun e w' => e = .returned (.bool false) ∧ w = w' := by
  by_cases h1 : x < a
  · clear h
    go_enter Tryz.func32, Tryz.ntmps32
    go_wp2
    go_ret
    exact ⟨rfl, rfl⟩
  · have h2 : ¬ x ≤ b := by omega
    have h3 : a ≤ x := by omega
    have h4 : decide (x ≤ b) = false := by simpa using h2
    clear h h1
    go_enter Tryz.func32, Tryz.ntmps32
    go_wp2
    go_ret
    exact ⟨rfl, rfl⟩

/-- '1 << n' as the walk spells it. -/
theorem shl_one {n : Int} {m : Nat} (h0 : 0 ≤ n) (h5 : n ≤ 60) (hm : m = 2 ^ n.toNat) : wrap64 (2 ^ n.toNat) = (m : Int) := by
  have h : 2 ^ n.toNat ≤ 2 ^ 60 := Nat.pow_le_pow_right (by omega) (by omega)
  have hb : (2 : Int) ^ n.toNat ≤ 2 ^ 60 := by exact_mod_cast h
  have hb' : (0 : Int) ≤ (2 : Int) ^ n.toNat := by exact_mod_cast Nat.zero_le (2 ^ n.toNat)
  have e : wrap64 ((2 : Int) ^ n.toNat) = (2 : Int) ^ n.toNat := by unfold wrap64; omega
  rw [e, hm]
  simp

theorem quiet_left {P : Program} {f : FuncId} {args : Array Value} {w : World} {n : Nat} {v : Value}
    (h : Calls P f args (w.drewN n) fun e w' => e = .returned v ∧ w.drewN n = w') : Calls P f args (w.drewN n) fun e w'' => e = .returned v ∧ ∃ m, w'' = w.drewN m :=
  h.mono fun _ _ ⟨he, hm⟩ => ⟨he, n, hm.symm⟩
theorem quiet_add_left {P : Program} {f : FuncId} {args : Array Value} {w : World} {a n : Nat} {v : Value}
    (h : Calls P f args (w.drewN (a + n)) fun e w' => e = .returned v ∧ w.drewN (a + n) = w') : Calls P f args (w.drewN (a + n)) fun e w'' => e = .returned v ∧ ∃ m, w'' = w.drewN (a + m) :=
  h.mono fun _ _ ⟨he, hm⟩ => ⟨he, n, hm.symm⟩

set_option maxRecDepth 100000 in
set_option maxHeartbeats 1600000 in
theorem isFnS_yes (n : Int) (A : Option Addr) (xs : List Int) (cap : Nat) (w : World) (h : Hid (Ints w w.heap.size A xs)) (hf : isFn n xs = true) :
    Calls Tryz.prog 11 #[.agg #[.int .i64 n, .slice A xs.length cap]] w (RetV w (.bool true)) := by
  obtain ⟨h0, h5, hl, hv⟩ := isFn_yes hf
  have hm := p2_le h0 h5
  rw [← hl] at hm
  obtain ⟨hm1, hm2⟩ := hm
  have hsh := shl_one h0 (by omega) hl
  obtain ⟨m, hxm⟩ : ∃ m, xs.length = m := ⟨_, rfl⟩
  rw [hxm] at hsh hm1 hm2 ⊢
  have HX := Lib.hid hxm
  have HV := Lib.hid hv
  clear hl hxm hf hv
  go_enter Tryz.func11, Tryz.ntmps11
  go_wp2
  go_quiet ((go_at_call 32; exact quiet_left (in_yes n 0 5 _ h0 h5)))
  go_wp2
  clear hsh
  go_loop [3] (fun i => ∃ k : Nat, k ≤ m ∧ i = .int .i64 k) (fun i => m - (intOf i).toNat)
  case atStart => exact ⟨0, Nat.zero_le _, rfl⟩
  case round =>
    obtain ⟨k, hk, rfl⟩ := hrel
    by_cases hlt : k < m
    · obtain ⟨b, off, rfl, hbl, hc⟩ := h.out.at_ (k := k) (by rw [HX.out]; exact hlt)
      obtain ⟨v1, v2⟩ := HV.out k (by rw [HX.out]; exact hlt)
      generalize xs.getD k 0 = x at hc v1 v2
      have hk0 : (0 : Int) ≤ (k : Int) := by omega
      have hkn : (k : Int) < (m : Int) := by omega
      go_wp2_with (go_at_call 32; refine (in_yes x (-1000) 1000 _ v1 v2).mono ?_; rintro e w' ⟨rfl, rfl⟩)
      go_round
      case rel => exact ⟨k + 1, by omega, by go_num⟩
      case measure => simp [intOf]; omega
    · go_wp2
      go_ret
      exact ⟨rfl, below_drewN ((Below.refl _ _).alloc (Nat.le_refl _) _) _⟩
/-- A number of elements, or of values, that is none. -/
theorem isFnS_num (n : Int) (A : Option Addr) (m cap : Nat) (w : World) (hn : n < 0 ∨ 5 < n) :
    Calls Tryz.prog 11 #[.agg #[.int .i64 n, .slice A m cap]] w (RetV w (.bool false)) := by
  go_enter Tryz.func11, Tryz.ntmps11
  go_wp2
  go_quiet ((go_at_call 32; exact quiet_left (in_no n 0 5 _ hn)))
  go_wp2
  go_ret
  exact ⟨rfl, below_drewN ((Below.refl _ _).alloc (Nat.le_refl _) _) _⟩

theorem isFnS_len (n : Int) (A : Option Addr) (m cap : Nat) (w : World) (h0 : 0 ≤ n) (h5 : n ≤ 5) (hm : m ≠ 2 ^ n.toNat) :
    Calls Tryz.prog 11 #[.agg #[.int .i64 n, .slice A m cap]] w (RetV w (.bool false)) := by
  have hsh := shl_one h0 (by omega) (m := 2 ^ n.toNat) rfl
  have hp := p2_le h0 h5
  generalize 2 ^ n.toNat = p at hsh hm hp
  have hb : ((m : Int) != (p : Int)) = true := bne_iff_ne.2 (by omega)
  have hb2 : ((m : Int) == (p : Int)) = false := beq_eq_false_iff_ne.2 (by omega)
  clear hm
  go_enter Tryz.func11, Tryz.ntmps11
  go_wp2
  go_quiet ((go_at_call 32; exact quiet_left (in_yes n 0 5 _ h0 h5)))
  go_wp2
  go_ret
  exact ⟨rfl, below_drewN ((Below.refl _ _).alloc (Nat.le_refl _) _) _⟩

set_option maxRecDepth 100000 in
set_option maxHeartbeats 1600000 in
theorem isFnS_val (n : Int) (A : Option Addr) (xs : List Int) (cap : Nat) (w : World) (h : Hid (Ints w w.heap.size A xs)) (h0 : 0 ≤ n) (h5 : n ≤ 5) (hl : xs.length = 2 ^ n.toNat)
    (j : Nat) (hj : j < xs.length) (hb : xs.getD j 0 < -1000 ∨ 1000 < xs.getD j 0) (hv : ∀ k, k < j → -1000 ≤ xs.getD k 0 ∧ xs.getD k 0 ≤ 1000) :
    Calls Tryz.prog 11 #[.agg #[.int .i64 n, .slice A xs.length cap]] w (RetV w (.bool false)) := by
  have hm := p2_le h0 h5
  rw [← hl] at hm
  obtain ⟨hm1, hm2⟩ := hm
  have hsh := shl_one h0 (by omega) hl
  obtain ⟨m, hxm⟩ : ∃ m, xs.length = m := ⟨_, rfl⟩
  rw [hxm] at hsh hm1 hm2 hj ⊢
  have HX := Lib.hid hxm
  have HV := Lib.hid hv
  have HB := Lib.hid hb
  clear hl hxm hv hb
  go_enter Tryz.func11, Tryz.ntmps11
  go_wp2
  go_quiet ((go_at_call 32; exact quiet_left (in_yes n 0 5 _ h0 h5)))
  go_wp2
  clear hsh
  go_loop [3] (fun i => ∃ k : Nat, k ≤ j ∧ i = .int .i64 k) (fun i => m - (intOf i).toNat)
  case atStart => exact ⟨0, Nat.zero_le _, rfl⟩
  case round =>
    obtain ⟨k, hk, rfl⟩ := hrel
    obtain ⟨b, off, rfl, hbl, hc⟩ := h.out.at_ (k := k) (by rw [HX.out]; omega)
    have hk0 : (0 : Int) ≤ (k : Int) := by omega
    have hkn : (k : Int) < (m : Int) := by omega
    by_cases hlt : k < j
    · obtain ⟨v1, v2⟩ := HV.out k hlt
      generalize xs.getD k 0 = x at hc v1 v2
      go_wp2_with (go_at_call 32; refine (in_yes x (-1000) 1000 _ v1 v2).mono ?_; rintro e w' ⟨rfl, rfl⟩)
      go_round
      case rel => exact ⟨k + 1, by omega, by go_num⟩
      case measure => simp [intOf]; omega
    · obtain rfl : k = j := by omega
      have hb := HB.out
      clear HB HV
      generalize xs.getD k 0 = x at hc hb
      have HB := Lib.hid hb
      clear hb
      go_wp2_with (go_at_call 32; refine (in_no x (-1000) 1000 _ HB.out).mono ?_; rintro e w' ⟨rfl, rfl⟩)
      go_ret
      exact ⟨rfl, below_drewN ((Below.refl _ _).alloc (Nat.le_refl _) _) _⟩

theorem isFnS_no (n : Int) (A : Option Addr) (xs : List Int) (cap : Nat) (w : World) (h : Hid (Ints w w.heap.size A xs)) (hf : isFn n xs = false) :
    Calls Tryz.prog 11 #[.agg #[.int .i64 n, .slice A xs.length cap]] w (RetV w (.bool false)) := by
  rcases isFn_no hf with h1 | ⟨h0, h5, hl⟩ | ⟨h0, h5, hl, j, hj, hb, hv⟩
  · exact isFnS_num n A _ cap w h1
  · exact isFnS_len n A _ cap w h0 h5 hl
  · exact isFnS_val n A xs cap w h h0 h5 hl j hj hb hv

theorem isFnS_any (n : Int) (A : Option Addr) (xs : List Int) (cap : Nat) (w : World) (h : Hid (Ints w w.heap.size A xs)) :
    Calls Tryz.prog 11 #[.agg #[.int .i64 n, .slice A xs.length cap]] w (RetV w (.bool (isFn n xs))) := by
  cases hf : isFn n xs
  · exact isFnS_no n A xs cap w h hf
  · exact isFnS_yes n A xs cap w h hf

end Go.Proofs.YtffbiflgmlabaaaGreatDoor.C

namespace Go.Proofs.YtffbiflgmlabaaaGreatDoor.C
open Go.RowKit K M
set_option linter.unusedVariables false
set_option linter.unusedSimpArgs false

theorem isFnI_num (n : Int) (A : Option Addr) (m cap : Nat) (w : World) (hn : n < 0 ∨ 5 < n) :
    Calls Tryz.prog 29 #[.agg #[.int .i64 n, .slice A m cap]] w (RetV w (.bool false)) := by
  by_cases h0 : n < 0
  · clear hn
    go_enter Tryz.func29, Tryz.ntmps29
    go_wp2
    go_quiet (fail)
    go_wp2
    go_ret
    exact ⟨rfl, below_drewN ((Below.refl _ _).alloc (Nat.le_refl _) _) _⟩
  · have h1 : decide (n < 0) = false := by simpa using h0
    have h5 : 5 < n := by omega
    clear hn
    go_enter Tryz.func29, Tryz.ntmps29
    go_wp2
    go_quiet (fail)
    go_wp2
    go_ret
    exact ⟨rfl, below_drewN ((Below.refl _ _).alloc (Nat.le_refl _) _) _⟩

theorem isFnI_len (n : Int) (A : Option Addr) (m cap : Nat) (w : World) (h0 : 0 ≤ n) (h5 : n ≤ 5) (hm : m ≠ 2 ^ n.toNat) :
    Calls Tryz.prog 29 #[.agg #[.int .i64 n, .slice A m cap]] w (RetV w (.bool false)) := by
  have hsh := shl_one h0 (by omega) (m := 2 ^ n.toNat) rfl
  have hp := p2_le h0 h5
  generalize 2 ^ n.toNat = p at hsh hm hp
  have hb : ((m : Int) != (p : Int)) = true := bne_iff_ne.2 (by omega)
  have hb2 : ((m : Int) == (p : Int)) = false := beq_eq_false_iff_ne.2 (by omega)
  have h1 : decide (n < 0) = false := by simpa using h0
  have h2 : decide (5 < n) = false := by simpa using h5
  clear hm
  go_enter Tryz.func29, Tryz.ntmps29
  go_wp2
  go_quiet (fail)
  go_wp2
  go_ret
  exact ⟨rfl, below_drewN ((Below.refl _ _).alloc (Nat.le_refl _) _) _⟩

set_option maxRecDepth 100000 in
set_option maxHeartbeats 1600000 in
theorem isFnI_loop (n : Int) (A : Option Addr) (xs : List Int) (cap : Nat) (w : World) (h : Hid (Ints w w.heap.size A xs)) (h0 : 0 ≤ n) (h5 : n ≤ 5) (hl : xs.length = 2 ^ n.toNat)
    (j : Nat) (res : Bool) (hj : Hid ((j < xs.length ∧ res = false ∧ (xs.getD j 0 < -1000 ∨ 1000 < xs.getD j 0)) ∨ (j = xs.length ∧ res = true))) (hv : ∀ k, k < j → -1000 ≤ xs.getD k 0 ∧ xs.getD k 0 ≤ 1000) :
    Calls Tryz.prog 29 #[.agg #[.int .i64 n, .slice A xs.length cap]] w (RetV w (.bool res)) := by
  have hm := p2_le h0 h5
  rw [← hl] at hm
  obtain ⟨hm1, hm2⟩ := hm
  have hsh := shl_one h0 (by omega) hl
  have hjm : j ≤ xs.length := by rcases hj.out with hh | hh <;> omega
  obtain ⟨m, hxm⟩ : ∃ m, xs.length = m := ⟨_, rfl⟩
  rw [hxm] at hsh hm1 hm2 hj hjm ⊢
  have h1 : decide (n < 0) = false := by simpa using h0
  have h2 : decide (5 < n) = false := by simpa using h5
  have HX := Lib.hid hxm
  have HV := Lib.hid hv
  clear hl hxm hv
  go_enter Tryz.func29, Tryz.ntmps29
  go_wp2
  go_quiet (fail)
  go_wp2
  clear hsh
  go_loop [4, 25] (fun _ i => ∃ k : Nat, k ≤ j ∧ i = .int .i64 k) (fun _ i => m - (intOf i).toNat)
  case atStart => exact ⟨0, Nat.zero_le _, rfl⟩
  case round =>
    obtain ⟨k, hk, rfl⟩ := hrel
    have hk0 : (0 : Int) ≤ (k : Int) := by omega
    by_cases hlt : k < j
    · obtain ⟨b, off, rfl, hbl, hc⟩ := h.out.at_ (k := k) (by rw [HX.out]; omega)
      have hkn : (k : Int) < (m : Int) := by omega
      obtain ⟨v1, v2⟩ := HV.out k hlt
      generalize xs.getD k 0 = x at hc v1 v2
      have t1 : decide (x < -1000) = false := by simpa using v1
      have t2 : decide (1000 < x) = false := by simpa using v2
      go_wp2
      go_round
      case rel => exact ⟨k + 1, by omega, by go_num⟩
      case measure => simp [intOf]; omega
    · obtain rfl : k = j := by omega
      rcases hj.out with ⟨j1, rfl, jb⟩ | ⟨j1, rfl⟩
      · obtain ⟨b, off, rfl, hbl, hc⟩ := h.out.at_ (k := k) (by rw [HX.out]; omega)
        have hkn : (k : Int) < (m : Int) := by omega
        clear HV hj
        generalize xs.getD k 0 = x at hc jb
        by_cases t0 : x < -1000
        · clear jb
          go_wp2
          go_ret
          exact ⟨rfl, below_drewN ((Below.refl _ _).alloc (Nat.le_refl _) _) _⟩
        · have t1 : decide (x < -1000) = false := by simpa using t0
          have t2 : 1000 < x := by omega
          clear jb
          go_wp2
          go_ret
          exact ⟨rfl, below_drewN ((Below.refl _ _).alloc (Nat.le_refl _) _) _⟩
      · have hkn : ¬ (k : Int) < (m : Int) := by omega
        clear j1 hj HV
        go_wp2
        go_ret
        exact ⟨rfl, below_drewN ((Below.refl _ _).alloc (Nat.le_refl _) _) _⟩

theorem isFnI_any (n : Int) (A : Option Addr) (xs : List Int) (cap : Nat) (w : World) (h : Hid (Ints w w.heap.size A xs)) :
    Calls Tryz.prog 29 #[.agg #[.int .i64 n, .slice A xs.length cap]] w (RetV w (.bool (isFn n xs))) := by
  cases hf : isFn n xs
  · rcases isFn_no hf with h1 | ⟨h0, h5, hl⟩ | ⟨h0, h5, hl, j, hj, hb, hv⟩
    · exact isFnI_num n A _ cap w h1
    · exact isFnI_len n A _ cap w h0 h5 hl
    · exact isFnI_loop n A xs cap w h h0 h5 hl j false (.inl ⟨hj, rfl, hb⟩) hv
  · obtain ⟨h0, h5, hl, hv⟩ := isFn_yes hf
    exact isFnI_loop n A xs cap w h h0 h5 hl _ true (.inr ⟨rfl, rfl⟩) hv
theorem isFnI_no (n : Int) (A : Option Addr) (xs : List Int) (cap : Nat) (w : World) (h : Hid (Ints w w.heap.size A xs)) (hf : isFn n xs = false) :
    Calls Tryz.prog 29 #[.agg #[.int .i64 n, .slice A xs.length cap]] w (RetV w (.bool false)) := hf ▸ isFnI_any n A xs cap w h
theorem isFnI_yes (n : Int) (A : Option Addr) (xs : List Int) (cap : Nat) (w : World) (h : Hid (Ints w w.heap.size A xs)) (hf : isFn n xs = true) :
    Calls Tryz.prog 29 #[.agg #[.int .i64 n, .slice A xs.length cap]] w (RetV w (.bool true)) := hf ▸ isFnI_any n A xs cap w h
theorem isFnI_tab (n : Int) (A : Option Addr) (xs : List Int) (m cap : Nat) (w : World) (hm : xs.length = m) (h : Hid (Ints w w.heap.size A xs)) :
    Calls Tryz.prog 29 #[.agg #[.int .i64 n, .slice A m cap]] w (RetV w (.bool (isFn n xs))) := by
  subst hm
  exact isFnI_any n A xs cap w h

end Go.Proofs.YtffbiflgmlabaaaGreatDoor.C
