/-
  The contract of spec.l8Orders.
-/
import Derived.Test.YtpefnfkodcidkaaLol
import Derived.Test.YtpefnfkodcidkaaAppN
import Derived.Test.YtpefnfkodcidkaaSub
namespace Go.Proofs.Ytpefnfkodcidkaa.M
set_option linter.unusedVariables false

def usedTo (p : List Int) (x : Int) : Nat → Bool
  | 0 => false
  | i + 1 => usedTo p x i || (p.getD i 0 == x)
/-- All orders of the first n elements that begin with p, d elements more. -/
def ordersTo (n : Nat) : Nat → List Int → List (List Int)
  | 0, p => [p]
  | d + 1, p => (List.range n).flatMap fun x : Nat => if usedTo p (x : Int) p.length = true then [] else ordersTo n d (p ++ [(x : Int)])
def ordersAt (n d : Nat) (p : List Int) (m : Nat) : List (List Int) := (List.range m).flatMap fun x : Nat => if usedTo p (x : Int) p.length = true then [] else ordersTo n d (p ++ [(x : Int)])
theorem ordersAt_succ (n d : Nat) (p : List Int) (m : Nat) : ordersAt n d p (m + 1) = ordersAt n d p m ++ (if usedTo p (m : Int) p.length = true then [] else ordersTo n d (p ++ [(m : Int)])) := by
  unfold ordersAt
  rw [List.range_succ, List.flatMap_append]
  simp
theorem orders_len (n : Nat) : ∀ d p, (ordersTo n d p).length ≤ n ^ d
  | 0, p => by simp [ordersTo]
  | d + 1, p => by
    have key : ∀ m, (ordersAt n d p m).length ≤ m * n ^ d := by
      intro m
      induction m with
      | zero => simp [ordersAt]
      | succ m ih =>
        rw [ordersAt_succ, List.length_append, Nat.succ_mul]
        have := orders_len n d (p ++ [(m : Int)])
        split
        · simp; omega
        · omega
    have := key n
    rw [Nat.pow_succ, Nat.mul_comm]
    exact this
theorem ordersAt_len (n d : Nat) (p : List Int) : ∀ m, (ordersAt n d p m).length ≤ m * n ^ d
  | 0 => by simp [ordersAt]
  | m + 1 => by
    have ih := ordersAt_len n d p m
    rw [ordersAt_succ, List.length_append, Nat.succ_mul]
    have := orders_len n d (p ++ [(m : Int)])
    split
    · simp; omega
    · omega

end Go.Proofs.Ytpefnfkodcidkaa.M
namespace Go.Proofs.Ytpefnfkodcidkaa.C
open Go.RowKit K M
set_option linter.unusedVariables false
set_option linter.unusedSimpArgs false

/-- A list of lists is left beside L. -/
def RetLol (w0 : World) (L : List Cel) (xss : List (List Int)) (e : Ending) (w' : World) : Prop := ∃ (g c : Nat) (es : List Ent), e = .returned (.slice (some ⟨g, 0, none⟩) es.length c) ∧ es.map (fun e => e.2.2) = xss ∧ St w0 w' (lol (.slice (some ⟨g, 0, none⟩) es.length c) es ++ L)

set_option maxRecDepth 100000 in
set_option maxHeartbeats 1600000 in
theorem orders_zero (N : Nat) (h4 : N ≤ 5) (p : List Int) (hp : p.length = N) (pb c : Nat) (w0 w : World) (L : List Cel) (h : Hid (St w0 w (il (.slice (some ⟨pb, 0, none⟩) p.length c) p.length p :: L))) :
    Calls Try.prog 27 #[.int .i64 N, .slice (some ⟨pb, 0, none⟩) p.length c] w (RetLol w0 L (ordersTo N 0 p)) := by
  have hE : ordersTo N 0 p = [p] := rfl
  rw [hE]
  have HZ : Hid (St w0 (w.alloc (.cells #[.slice (some ⟨pb, 0, none⟩) p.length c] 22)) (lol (.slice (some ⟨w.heap.size, 0, none⟩) 1 1) [(some ⟨pb, 0, none⟩, c, p)] ++ L)) := Lib.hid ((show St w0 w (ir (some ⟨pb, 0, none⟩, c, p) :: L) from h.out).oneL)
  have hb : (N : Int) == (N : Int) := beq_self_eq_true _
  rw [hp] at HZ ⊢
  clear h hE
  go_enter Try.func27, Try.ntmps27
  go_wp2
  go_ret
  exact ⟨_, _, [(some ⟨pb, 0, none⟩, c, p)], rfl, rfl, HZ.out⟩

set_option maxRecDepth 100000 in
set_option maxHeartbeats 8000000 in
theorem orders_step (N d : Nat) (h4 : N ≤ 5) (p : List Int) (hp : p.length + (d + 1) = N) (hsmall : N * N ^ d ≤ 1048576) (pb c : Nat) (w0 w : World) (L : List Cel) (h : Hid (St w0 w (il (.slice (some ⟨pb, 0, none⟩) p.length c) p.length p :: L)))
    (IH : Hid (∀ (q : List Int) (qb qc : Nat) (W : World) (L' : List Cel), q.length + d = N → Hid (St w0 W (il (.slice (some ⟨qb, 0, none⟩) q.length qc) q.length q :: L')) → Calls Try.prog 27 #[.int .i64 N, .slice (some ⟨qb, 0, none⟩) q.length qc] W (RetLol w0 L' (ordersTo N d q)))) :
    Calls Try.prog 27 #[.int .i64 N, .slice (some ⟨pb, 0, none⟩) p.length c] w (RetLol w0 L (ordersTo N (d + 1) p)) := by
  have hE : ordersTo N (d + 1) p = ordersAt N d p N := rfl
  rw [hE]
  have HST := Lib.hid (ordersAt_succ N d p)
  have HLE := Lib.hid (fun m (hm : m ≤ N) => show (ordersAt N d p m).length ≤ 1048576 from Nat.le_trans (ordersAt_len N d p m) (Nat.le_trans (Nat.mul_le_mul_right _ hm) hsmall))
  have HL2 := Lib.hid (fun q => show (ordersTo N d q).length ≤ 1048576 from Nat.le_trans (orders_len N d q) (by
    have : N ^ d ≤ N * N ^ d := Nat.le_mul_of_pos_left _ (by omega)
    omega))
  have h0 : ordersAt N d p 0 = [] := by simp [ordersAt]
  generalize ordersAt N d p = f at *
  have HU := Lib.hid (fun x i => (by rfl : usedTo p x (i + 1) = (usedTo p x i || (p.getD i 0 == x))))
  obtain ⟨m, hm⟩ : ∃ m, p.length = m := ⟨_, rfl⟩
  have HM := Lib.hid hm
  have hne : ((m : Int) == (N : Int)) = false := beq_eq_false_iff_ne.2 (by omega)
  rw [hm] at h hp HST ⊢
  clear hE hm hsmall
  have HE := Lib.hid h.out.emptyL
  obtain ⟨i0, hi, hz0, hz1, hz2⟩ := info_parts info_int
  obtain ⟨j0, hj, hy0, hy1, hy2⟩ := info_parts info_ints
  go_enter Try.func27, Try.ntmps27
  go_wp2
  go_loopw [5, 6] (fun v i wr => ∃ (x g c2 : Nat) (es : List Ent), i = .int .i64 x ∧ x ≤ N ∧ v = .slice (some ⟨g, 0, none⟩) es.length c2 ∧ es.map (fun e => e.2.2) = f x ∧ St w0 wr (lol (.slice (some ⟨g, 0, none⟩) es.length c2) es ++ (il (.slice (some ⟨pb, 0, none⟩) m c) m p :: L))) (fun _ i _ => N - (intOf i).toNat)
  case atStart => exact ⟨0, _, _, [], rfl, Nat.zero_le _, rfl, by rw [h0]; rfl, HE.out⟩
  case round =>
    obtain ⟨x, g, c2, es, rfl, hx, rfl, hes, hS⟩ := hrel
    clear HE h0
    by_cases hlt : x < N
    · have hxi : (x : Int) < (N : Int) := by omega
      obtain ⟨wo, rfl⟩ : ∃ wo : World, wo = wr := ⟨_, rfl⟩
      have HR := Lib.hid hS
      have HEs := Lib.hid hes
      clear hS hes
      go_wp2
      go_loop [7, 8] (fun u i => ∃ k : Nat, k ≤ m ∧ i = .int .i64 k ∧ u = .bool (usedTo p (x : Int) k)) (fun _ i => m - (intOf i).toNat)
      case atStart => exact ⟨0, Nat.zero_le _, rfl, rfl⟩
      case round =>
        obtain ⟨k, hk, rfl, rfl⟩ := hrel
        by_cases hkm : k < m
        · have c1 := ((HR.out.rest_of (L1 := lol _ es)).cellI (i := 0) rfl hkm).1
          have hu := HU.out (x : Int) k
          generalize p.getD k 0 = y at c1 hu
          have hk0 : (0 : Int) ≤ (k : Int) := by omega
          have hkn : (k : Int) < (m : Int) := by omega
          cases hub : usedTo p (x : Int) k
          · rw [hub, Bool.false_or] at hu
            obtain ⟨e, he⟩ : ∃ e, (y == (x : Int)) = e := ⟨_, rfl⟩
            rw [he] at hu
            have HV := Lib.hid hu
            clear hu
            go_wp2
            go_round
            case rel => exact ⟨k + 1, by omega, by go_num, by rw [HV.out]⟩
            case measure => simp [intOf]; omega
          · rw [hub, Bool.true_or] at hu
            have HV := Lib.hid hu
            clear hu
            go_wp2
            go_round
            case rel => exact ⟨k + 1, by omega, by go_num, by rw [HV.out]⟩
            case measure => simp [intOf]; omega
        · obtain rfl : k = m := by omega
          have hkn : ¬ (k : Int) < (k : Int) := by omega
          have hst := HST.out x
          cases hub : usedTo p (x : Int) k
          · rw [if_neg (by rw [hub]; decide)] at hst
            have HF := Lib.hid hst
            clear hst
            have hesl : es.length ≤ 1048576 := by
              have h1 := congrArg List.length HEs.out
              rw [List.length_map] at h1
              have := HLE.out x hx
              omega
            have HA := Lib.hid HR.out.empty
            have hlen : (p ++ [(x : Int)]).length = k + 1 := by rw [List.length_append, HM.out]; rfl
            have HI := Lib.hid (fun qb qc W L' hh => IH.out (p ++ [(x : Int)]) qb qc W L' (by omega) hh)
            have HL3 := HL2.out (p ++ [(x : Int)])
            rw [hlen] at HI
            generalize ordersTo N d (p ++ [(x : Int)]) = res at HI HF HL3
            clear hlen IH HR
            go_wp2_with (first
              | (go_at_call 27; refine (HI.out _ _ _ _ (Lib.hid HC6.out)).mono ?_; rintro e w7 ⟨g7, c7, rs, rfl, hrs, hS7⟩; have HRS := Lib.hid hrs; have hrl : rs.length ≤ 1048576 := (by rw [← hrs, List.length_map] at HL3; exact HL3); have HS7 := Lib.hid hS7; clear hS7 hrs)
              | (at_builtin; refine wpList_appN rfl (.tmp 40) (.tmp 41) 22 rfl p Try.underlying22 hi hz0 hz1 hz2 HA.out (i := 0) rfl HM.out rfl rfl (fun j hj => by rw [Nat.zero_add]; exact (((HA.out.drop 0).rest_of (L1 := lol _ es)).cellI (i := 0) rfl hj).1) (by simp) (by omega) (by omega) (Nat.zero_add _) ?_; intro g5 c5 w5 hS5; have HB5 := Lib.hid hS5; clear hS5)
              | (at_builtin; refine wpList_app1 rfl (.tmp 42) (.tmp 44) 22 rfl (x : Int) Try.underlying22 hi hz0 hz1 hz2 ((HB5.out.alloc _ _).drop 0) (i := 0) rfl rfl rfl (by simp) (by omega) ?_; intro A6 c6 w6 hS6; obtain ⟨g6, cap6, hV6, -⟩ := World.ownsRow.form (hS6.own (i := 0) rfl) (by show 0 < k + 1; omega); injection hV6 with hV1 hV2 hV3; subst hV1 hV3; clear hV2; have HC6 := Lib.hid hS6; clear hS6)
              | (at_builtin; refine wpList_appL rfl (.tmp 38) (.tmp 46) 36 rfl rs Try.underlying36 hj hy0 hy1 hy2 (HS7.out.perm (perm_lol _ _ _ _ _)) (i := 0) rfl rfl rfl rfl rfl (fun j e he => by rw [Nat.zero_add]; exact HS7.out.cellL (i := 0) rfl he) (by omega) (by omega) ?_; intro g8 c8 w8 hS8; have HS8 := Lib.hid (hS8.drop 1); clear hS8))
            go_roundw
            case rel =>
              refine ⟨x + 1, g8, c8, es ++ rs, by go_num, by omega, by rw [List.length_append], by rw [List.map_append, HEs.out, HRS.out, HF.out], ?_⟩
              have hZ := HS8.out
              unfold lol
              rw [List.map_append]
              exact hZ
            case measure => simp [intOf]; omega
          · rw [if_pos hub, List.append_nil] at hst
            have HF := Lib.hid hst
            clear hst
            go_wp2
            go_roundw
            case rel => exact ⟨x + 1, g, c2, es, by go_num, by omega, rfl, by rw [HEs.out, HF.out], HR.out⟩
            case measure => simp [intOf]; omega
    · obtain rfl : x = N := by omega
      have hxi : ¬ (x : Int) < (x : Int) := by omega
      have HR := Lib.hid hS
      clear hS
      go_wp2
      go_ret
      exact ⟨g, c2, es, rfl, hes, HR.out.sublist (List.Sublist.append_left (List.sublist_cons_self _ _) _)⟩

theorem orders_any (N : Nat) (h4 : N ≤ 5) : ∀ d (p : List Int), p.length + d = N → ∀ (pb c : Nat) (w0 w : World) (L : List Cel), Hid (St w0 w (il (.slice (some ⟨pb, 0, none⟩) p.length c) p.length p :: L)) →
    Calls Try.prog 27 #[.int .i64 N, .slice (some ⟨pb, 0, none⟩) p.length c] w (RetLol w0 L (ordersTo N d p))
  | 0, p, hp, pb, c, w0, w, L, h => orders_zero N h4 p (by omega) pb c w0 w L h
  | d + 1, p, hp, pb, c, w0, w, L, h => orders_step N d h4 p hp (by
      have h1 : N ^ (d + 1) ≤ 5 ^ 5 := Nat.le_trans (Nat.pow_le_pow_left h4 _) (Nat.pow_le_pow_right (by decide) (by omega))
      rw [Nat.pow_succ, Nat.mul_comm] at h1
      exact Nat.le_trans h1 (by decide)) pb c w0 w L h (Lib.hid fun q qb qc W L' hq hh => orders_any N h4 d q hq qb qc w0 W L' hh)

end Go.Proofs.Ytpefnfkodcidkaa.C
