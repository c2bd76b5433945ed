/-
  The contracts of the law's own helpers: sameLists of two lists that are alike, total, has.
-/
import Derived.Test.YtffbiflgmlabaaaGreatDoorSameI
import Derived.Test.YtffbiflgmlabaaaGreatDoorLolA
import Derived.Test.YtffbiflgmlabaaaGreatDoorAllM
namespace Go.Proofs.YtffbiflgmlabaaaGreatDoor.C
open Go.RowKit K M
set_option linter.unusedVariables false
set_option linter.unusedSimpArgs false

set_option maxRecDepth 100000 in
set_option maxHeartbeats 1600000 in
theorem sameLists_same (G G' : Option Addr) (c c' : Nat) (es es' : List Ent) (w : World) (h : Hid (LLs w G es)) (h' : Hid (LLs w G' es')) (he : es.map (fun e => e.2.2) = es'.map (fun e => e.2.2)) (hs : ∀ e ∈ es, e.2.2.length ≤ 1048576) (hl : es.length ≤ 1048576) :
    Calls Tryz.prog 14 #[.slice G es.length c, .slice G' es'.length c'] w fun e w' => e = .returned (.bool true) ∧ ∃ n, w.drewN n = w' := by
  have hll : es'.length = es.length := by have := congrArg List.length he; simpa using this.symm
  have HE := Lib.hid (fun j (hj : j < es.length) => show ∃ e e', es[j]? = some e ∧ es'[j]? = some e' ∧ e.2.2 = e'.2.2 ∧ e.2.2.length ≤ 1048576 from by
    refine ⟨es[j], es'[j], by simp, by simp, ?_, hs _ (List.getElem_mem hj)⟩
    have := congrArg (fun l => l[j]?) he
    simpa [hj, hll] using this)
  obtain ⟨n, hn⟩ : ∃ n, es.length = n := ⟨_, rfl⟩
  rw [hll, hn]
  rw [hn] at HE hl
  have hbe : ((n : Int) != (n : Int)) = false := by simp
  clear he hs hll hn
  go_enter Tryz.func14, Tryz.ntmps14
  go_wp2
  go_loopw [5] (fun i wr => ∃ j q : Nat, i = .int .i64 j ∧ j ≤ n ∧ w.drewN q = wr) (fun i _ => n - (intOf i).toNat)
  case atStart => exact ⟨0, 0, rfl, Nat.zero_le _, rfl⟩
  case round =>
    obtain ⟨j, q, rfl, hj, hq⟩ := hrel
    by_cases hlt : j < n
    · obtain ⟨⟨A, a, xs⟩, ⟨D, d, ys⟩, h1, h2, h3, h4⟩ := HE.out j hlt
      obtain rfl : xs = ys := h3
      obtain ⟨g, rfl, k1', -, i1'⟩ := h.out.at_ j _ h1
      obtain ⟨g', rfl, k2', -, i2'⟩ := h'.out.at_ j _ h2
      have k1 : wr.cell? ⟨g, j, none⟩ = some (.slice A xs.length a) := by rw [← hq]; exact k1'
      have k2 : wr.cell? ⟨g', j, none⟩ = some (.slice D xs.length d) := by rw [← hq]; exact k2'
      have i1 : Ints wr wr.heap.size A xs := by rw [← hq]; exact i1'
      have i2 : Ints wr wr.heap.size D xs := by rw [← hq]; exact i2'
      have HQ := Lib.hid (fun k => sameInts_same A D xs a d (wr.drewN k) (Lib.hid i1) (Lib.hid i2) (by have : xs.length ≤ 1048576 := h4; omega))
      have hj0 : (0 : Int) ≤ (j : Int) := by omega
      have hji : (j : Int) < (n : Int) := by omega
      have HWQ := Lib.hid hq
      clear h1 h2 h4 i1 i2 hq k1' k2' i1' i2'
      go_wp2
      go_quiet ((go_at_call 9; exact quiet_val (HQ.out _)))
      go_wp2
      go_roundw
      case rel => exact ⟨j + 1, q + nq, by go_num, by omega, by rw [← HWQ.out]; simp [World.drewN, Nat.add_assoc]⟩
      case measure => simp [intOf]; omega
    · obtain rfl : j = n := by omega
      have hji : ¬ (j : Int) < (j : Int) := by omega
      go_wp2
      go_ret
      exact ⟨rfl, q, hq⟩

set_option maxRecDepth 100000 in
theorem hasL_any (A : Option Addr) (xs : List Int) (cap : Nat) (x : Int) (w : World) (h : Hid (Ints w w.heap.size A xs)) (hl : xs.length ≤ 1048576) :
    Calls Tryz.prog 26 #[.slice A xs.length cap, .int .i64 x] w fun e w' => e = .returned (.bool (hasI xs x)) ∧ w = w' := by
  have HM := Lib.hid (hasI_mem (l := xs) (s := x))
  have HN := Lib.hid (hasI_no (l := xs) (s := x))
  obtain ⟨bb, hbb⟩ : ∃ b, hasI xs x = b := ⟨_, rfl⟩
  rw [hbb] at HM HN ⊢
  obtain ⟨m, hm⟩ : ∃ m, xs.length = m := ⟨_, rfl⟩
  have HX := Lib.hid hm
  rw [hm] at hl HM HN ⊢
  clear hm hbb
  go_enter Tryz.func26, Tryz.ntmps26
  go_wp2
  go_loop [5] (fun i => ∃ k : Nat, k ≤ m ∧ i = .int .i64 k ∧ Hid (∀ j, j < k → xs.getD j 0 ≠ x)) (fun i => m - (intOf i).toNat)
  case atStart => exact ⟨0, Nat.zero_le _, rfl, Lib.hid (fun j hj => absurd hj (by omega))⟩
  case round =>
    obtain ⟨k, hk, rfl, hf⟩ := hrel
    by_cases hlt : k < m
    · obtain ⟨b, off, rfl, hbl, hc⟩ := h.out.at_ (k := k) (by rw [HX.out]; exact hlt)
      have hk0 : (0 : Int) ≤ (k : Int) := by omega
      have hkn : (k : Int) < (m : Int) := by omega
      have hyes := fun (e : xs.getD k 0 = x) => HM.out.2 ⟨k, hlt, e⟩
      have hnext := fun (e : xs.getD k 0 ≠ x) => (show ∀ j, j < k + 1 → xs.getD j 0 ≠ x from fun j hj => by
        by_cases h : j = k
        · subst h; exact e
        · exact hf.out j (by omega))
      generalize hy : xs.getD k 0 = y at *
      by_cases hyx : y = x
      · have HB := Lib.hid (hyes hyx)
        have hbe : (y == x) = true := by rw [hyx]; exact beq_self_eq_true _
        clear hyes hnext hy hyx
        go_wp2
        go_ret
        exact ⟨by rw [HB.out]; rfl, rfl⟩
      · have HB := Lib.hid (hnext hyx)
        have hbe : (y == x) = false := beq_eq_false_iff_ne.2 hyx
        clear hyes hnext hy hyx
        go_wp2
        go_round
        case rel => exact ⟨k + 1, by omega, by go_num, HB⟩
        case measure => simp [intOf]; omega
    · obtain rfl : k = m := by omega
      have hkn : ¬ (k : Int) < (k : Int) := by omega
      have HB := Lib.hid (HN.out hf.out)
      go_wp2
      go_ret
      exact ⟨by rw [HB.out]; rfl, rfl⟩

end Go.Proofs.YtffbiflgmlabaaaGreatDoor.C
