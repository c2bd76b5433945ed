/-
  The contracts of impl.isOrder and CornerOf.
-/
import Derived.Test.YtpefnfkodcidkaaLnM
import Derived.Test.YtpefnfkodcidkaaCutI
import Derived.Test.YtpefnfkodcidkaaGaI
import Derived.Test.YtpefnfkodcidkaaSubI
namespace Go.Proofs.Ytpefnfkodcidkaa.C
open Go.RowKit K M
set_option linter.unusedVariables false
set_option linter.unusedSimpArgs false
set_option linter.unusedSectionVars false

theorem orderI_ne (N : Nat) (A : Option Addr) (p : List Int) (cap : Nat) (w : World) (hne : p.length ≠ N) :
    Calls Try.prog 25 #[.slice A p.length cap, .int .i64 N] w fun e w' => e = .returned (.bool false) ∧ w = w' := by
  have hn : ((p.length : Int) != (N : Int)) = true := bne_iff_ne.2 (by omega)
  go_enter Try.func25, Try.ntmps25
  go_wp2
  go_ret
  exact ⟨rfl, rfl⟩

set_option maxRecDepth 100000 in
set_option maxHeartbeats 1600000 in
theorem orderI_len (N : Nat) (A : Option Addr) (p : List Int) (cap : Nat) (w : World) (h : Hid (Ints w w.heap.size A p)) (h5 : N ≤ 5) (hl : p.length = N) :
    Calls Try.prog 25 #[.slice A N cap, .int .i64 N] w fun e w' => e = .returned (.bool (permTo (N : Int) p N)) ∧ w = w' := by
  have HX := Lib.hid hl
  have HN := Lib.hid (fun j (hj : j < N) hb => perm_no (n := (N : Int)) (p := p) (j := j) hb N hj)
  have HU := Lib.hid (fun k => show permTo (N : Int) p (k + 1) = (permTo (N : Int) p k && (decide (0 ≤ p.getD k 0 ∧ p.getD k 0 ≤ (N : Int) - 1) && !(seenTo p k).testBit (p.getD k 0).toNat)) from rfl)
  have HSN := Lib.hid (fun k => show seenTo p (k + 1) = seenTo p k ||| 2 ^ (p.getD k 0).toNat from rfl)
  have HSL := Lib.hid (fun k (hk : permTo (N : Int) p k = true) => seen_lt (N := N) (p := p) k fun i hi => (perm_at k hk i hi).1)
  have h32 : 2 ^ N ≤ 32 := Nat.le_trans (Nat.pow_le_pow_right (by decide) h5) (by decide)
  have hne : ((N : Int) != (N : Int)) = false := by simp
  have hz : seenTo p 0 = 0 := rfl
  have hp0 : permTo (N : Int) p 0 = true := rfl
  generalize permTo (N : Int) p = f at *
  clear hl
  go_enter Try.func25, Try.ntmps25
  go_wp2
  go_loop [5, 14] (fun b i => ∃ k : Nat, k ≤ N ∧ i = .int .i64 k ∧ b = .int .i64 (seenTo p k : Nat) ∧ Hid (f k = true)) (fun _ i => N - (intOf i).toNat)
  case atStart => exact ⟨0, Nat.zero_le _, rfl, by rw [hz]; rfl, Lib.hid hp0⟩
  case round =>
    obtain ⟨k, hk, rfl, rfl, hf⟩ := hrel
    clear hz hp0
    by_cases hlt : k < N
    · obtain ⟨b, off, rfl, hbl, hc⟩ := h.out.at_ (k := k) (by rw [HX.out]; exact hlt)
      have hk0 : (0 : Int) ≤ (k : Int) := by omega
      have hkn : (k : Int) < (N : Int) := by omega
      have hno := HN.out k hlt
      have hsn := HSN.out k
      have hup := HU.out k
      have hsl := HSL.out k hf.out
      generalize p.getD k 0 = e at *
      by_cases hidx : 0 ≤ e ∧ e ≤ (N : Int) - 1
      · obtain ⟨E, rfl⟩ := Int.eq_ofNat_of_zero_le hidx.1
        rw [Int.toNat_natCast] at hno hsn hup
        have HI := Lib.hid (fun W => isIndex_yes (E : Int) (N : Int) W hidx.1 (by omega))
        have HA := Lib.hid (fun W => has_any (seenTo p k) E W (by omega) (by omega))
        have HWI := Lib.hid (fun W => with_any ((seenTo p k : Nat) : Int) (E : Int) W (by omega) (by omega) hidx.1 (by omega))
        rw [show withE ((seenTo p k : Nat) : Int) (E : Int) = seenTo p k ||| 2 ^ E from by unfold withE; rw [Int.toNat_natCast, Int.toNat_natCast]] at HWI
        rw [← hsn] at HWI
        rw [hf.out, decide_eq_true hidx, Bool.true_and, Bool.true_and] at hup
        cases hb : (seenTo p k).testBit E
        · rw [hb] at HA hup
          have HF := Lib.hid hup
          clear hno hup hsn hsl hidx hb
          generalize seenTo p k = S at HA HWI ⊢
          generalize hT : seenTo p (k + 1) = T at HWI
          have HT := Lib.hid hT
          clear hT
          go_wp2_with (first
            | (go_at_call 34; refine (HI.out _).mono ?_; rintro e w' ⟨rfl, rfl⟩)
            | (go_at_call 35; refine (HA.out _).mono ?_; rintro e w' ⟨rfl, rfl⟩)
            | (go_at_call 36; refine (HWI.out _).mono ?_; rintro e w' ⟨rfl, rfl⟩))
          go_round
          case rel => exact ⟨k + 1, by omega, by go_num, by rw [HT.out], Lib.hid (by rw [HF.out]; rfl)⟩
          case measure => simp [intOf]; omega
        · rw [hb] at HA
          have HF := Lib.hid (hno (.inr hb))
          clear hno hup hsn hsl hidx hb HWI
          generalize seenTo p k = S at HA ⊢
          go_wp2_with (first
            | (go_at_call 34; refine (HI.out _).mono ?_; rintro e w' ⟨rfl, rfl⟩)
            | (go_at_call 35; refine (HA.out _).mono ?_; rintro e w' ⟨rfl, rfl⟩))
          go_ret
          exact ⟨by rw [HF.out]; rfl, rfl⟩
      · have HI := Lib.hid (fun W => isIndex_no e (N : Int) W (by omega))
        have HF := Lib.hid (hno (.inl hidx))
        clear hno hup hsn hsl hidx
        generalize seenTo p k = S
        go_wp2_with (go_at_call 34; refine (HI.out _).mono ?_; rintro e w' ⟨rfl, rfl⟩)
        go_ret
        exact ⟨by rw [HF.out]; rfl, rfl⟩
    · obtain rfl : k = N := by omega
      have hkn : ¬ (k : Int) < (k : Int) := by omega
      go_wp2
      go_ret
      exact ⟨by rw [hf.out]; rfl, rfl⟩

theorem orderI_any (N : Nat) (A : Option Addr) (p : List Int) (cap : Nat) (w : World) (h : Hid (Ints w w.heap.size A p)) (h5 : N ≤ 5) :
    Calls Try.prog 25 #[.slice A p.length cap, .int .i64 N] w fun e w' => e = .returned (.bool (isPerm (N : Int) p)) ∧ w = w' := by
  unfold isPerm
  by_cases hl : p.length = N
  · rw [decide_eq_true (by omega : (p.length : Int) = (N : Int)), Bool.and_true, hl]
    exact orderI_len N A p cap w h h5 hl
  · rw [decide_eq_false (by omega : ¬ (p.length : Int) = (N : Int)), Bool.and_false]
    exact orderI_ne N A p cap w hl

/-- What an order of all elements says of each of them. -/
theorem perm_parts {N : Nat} {p : List Int} (q : isPerm (N : Int) p = true) : p.length = N ∧ ∀ i, i < N → p.getD i 0 = ((p.getD i 0).toNat : Int) ∧ (p.getD i 0).toNat < N := by
  unfold isPerm at q
  rw [Bool.and_eq_true, decide_eq_true_eq] at q
  have hl : p.length = N := by omega
  refine ⟨hl, fun i hi => ?_⟩
  have := (perm_at _ q.1 i (by omega)).1
  omega


section

variable (n : Int) (A : Option Addr) (xs : List Int) (cap : Nat) (D : Option Addr) (p : List Int) (dap : Nat) (w : World) (h : Hid (Ints w w.heap.size A xs)) (g : Hid (Ints w w.heap.size D p))
include h g

set_option maxRecDepth 100000 in
theorem cornerI_no (q : isGround n xs = false ∨ (isGround n xs = true ∧ isPerm n p = false)) : Calls Try.prog 9 #[.agg #[.int .i64 n, .slice A xs.length cap], .slice D p.length dap] w (RetIB w [] false) := by
  have HW := Lib.hid (St.start w)
  have HG := Lib.hid (fun W h1 => groundI_any n A xs cap W (Lib.hid h1))
  rcases q with q | ⟨q1, q⟩
  · rw [q] at HG
    clear q
    go_enter Try.func9, Try.ntmps9
    go_wp2_with (go_at_call 24; refine St.use (w0 := w) (by exact HW.out.alloc _ _) ?_; intro hS; refine (HG.out _ ((h.out.below hS.base).mono hS.size)).mono ?_; rintro e w1 ⟨rfl, hb⟩; have HS := Lib.hid (hS.below hb); clear hS hb)
    exact bodyPost_ret (v := .tuple #[.slice none 0 0, .bool false]) (by simp [results, Try.results9, go_sem]) rfl ⟨none, 0, rfl, K.Own.nil _ _, HS.out.base⟩
  · rw [q1] at HG
    obtain ⟨h0, h5, -, -⟩ := isFn_yes (ground_fn q1)
    obtain ⟨N, rfl⟩ := Int.eq_ofNat_of_zero_le h0
    have HO := Lib.hid (fun W h1 => orderI_any N D p dap W (Lib.hid h1) (by omega))
    rw [q] at HO
    clear q q1 h0 h5
    go_enter Try.func9, Try.ntmps9
    go_wp2_with (first
      | (go_at_call 24; refine St.use (w0 := w) (by exact HW.out.alloc _ _) ?_; intro hS; refine (HG.out _ ((h.out.below hS.base).mono hS.size)).mono ?_; rintro e w1 ⟨rfl, hb⟩; have hS1 := hS.below hb; obtain ⟨b0, -⟩ := hS1.box (i := 0) rfl; have b00 := b0 0 _ rfl; have HS := Lib.hid hS1; clear hS hb hS1 b0)
      | (go_at_call 25; refine (HO.out _ ((g.out.below HS.out.base).mono HS.out.size)).mono ?_; rintro e w' ⟨rfl, rfl⟩))
    exact bodyPost_ret (v := .tuple #[.slice none 0 0, .bool false]) (by simp [results, Try.results9, go_sem]) rfl ⟨none, 0, rfl, K.Own.nil _ _, HS.out.base⟩

set_option maxRecDepth 100000 in
set_option maxHeartbeats 1600000 in
theorem cornerI_yes (q1 : isGround n xs = true) (q : isPerm n p = true) : Calls Try.prog 9 #[.agg #[.int .i64 n, .slice A xs.length cap], .slice D p.length dap] w (RetIB w (cornerTo xs n.toNat p p.length) true) := by
  have HW := Lib.hid (St.start w)
  have HG := Lib.hid (fun W h1 => groundI_any n A xs cap W (Lib.hid h1))
  rw [q1] at HG
  obtain ⟨h0, h5, hlx, hvv⟩ := isFn_yes (ground_fn q1)
  obtain ⟨N, rfl⟩ := Int.eq_ofNat_of_zero_le h0
  rw [Int.toNat_natCast] at hlx ⊢
  have HO := Lib.hid (fun W h1 => orderI_any N D p dap W (Lib.hid h1) (by omega))
  rw [q] at HO
  obtain ⟨hl, hp⟩ := perm_parts q
  rw [hl]
  have hcg := corner_gain xs N (p := p) (o := fun i => (p.getD i 0).toNat) N fun i hi => (hp i hi).1
  have HGA := Lib.hid (fun W h1 h2 => gainsI_any (N : Int) A xs cap D p dap W (Lib.hid h1) (Lib.hid h2) N (fun i => (p.getD i 0).toNat) hl (by omega) hlx hvv (fun i hi => (hp i hi).1) (fun i hi => (hp i hi).2))
  rw [hl] at HGA HO
  rw [hcg]
  generalize gain xs (fun i => (p.getD i 0).toNat) N N = G at *
  clear q q1 h0 h5 hlx hvv hp hl hcg
  go_enter Try.func9, Try.ntmps9
  go_wp2_with (first
    | (go_at_call 24; refine St.use (w0 := w) (by exact HW.out.alloc _ _) ?_; intro hS; refine (HG.out _ ((h.out.below hS.base).mono hS.size)).mono ?_; rintro e w1 ⟨rfl, hb⟩; have hS1 := hS.below hb; obtain ⟨b0, -⟩ := hS1.box (i := 0) rfl; have b00 := b0 0 _ rfl; have b01 := b0 1 _ rfl; have HS := Lib.hid hS1; clear hS hb hS1 b0)
    | (go_at_call 25; refine (HO.out _ ((g.out.below HS.out.base).mono HS.out.size)).mono ?_; rintro e w' ⟨rfl, rfl⟩)
    | (go_at_call 26; refine (HGA.out _ ((h.out.below HS.out.base).mono HS.out.size) ((g.out.below HS.out.base).mono HS.out.size)).mono ?_; rintro e w2 ⟨A2, c2, rfl, ho, hb⟩; have HS2 := Lib.hid (HS.out.newI hb ho); clear ho hb))
  exact bodyPost_ret (v := .tuple #[.slice A2 G.length c2, .bool true]) (by simp [results, Try.results9, go_sem]) rfl ⟨A2, c2, rfl, HS2.out.ownI (i := 0) rfl, HS2.out.base⟩

theorem cornerI_any : Calls Try.prog 9 #[.agg #[.int .i64 n, .slice A xs.length cap], .slice D p.length dap] w (RetIB w (cornerOf n xs p).1 (cornerOf n xs p).2) := by
  unfold cornerOf
  cases q1 : isGround n xs
  · rw [if_neg (by simp)]
    exact cornerI_no n A xs cap D p dap w h g (.inl q1)
  · cases q : isPerm n p
    · rw [if_neg (by simp)]
      exact cornerI_no n A xs cap D p dap w h g (.inr ⟨q1, q⟩)
    · rw [if_pos ⟨rfl, rfl⟩]
      exact cornerI_yes n A xs cap D p dap w h g q1 q

end

theorem corner_small (n : Int) (xs p : List Int) : (cornerOf n xs p).1.length ≤ 1048576 := by
  unfold cornerOf
  by_cases q : isGround n xs = true ∧ isPerm n p = true
  · rw [if_pos q]
    obtain ⟨h0, h5, -, -⟩ := isFn_yes (ground_fn q.1)
    have := cornerTo_len xs n.toNat p p.length
    dsimp only
    omega
  · rw [if_neg q]
    decide

end Go.Proofs.Ytpefnfkodcidkaa.C
