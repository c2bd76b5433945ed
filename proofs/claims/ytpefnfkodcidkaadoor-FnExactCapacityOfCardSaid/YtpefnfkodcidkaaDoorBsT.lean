/-
  The contracts of spec's chapter 8: capacities, tight sets, bases.
-/
import Derived.Test.YtpefnfkodcidkaaDoorBsS
import Derived.Test.YtpefnfkodcidkaaDoorVal
namespace Go.Proofs.YtpefnfkodcidkaaDoor.C
open Go.RowKit K M
set_option linter.unusedVariables false
set_option linter.unusedSimpArgs false
set_option linter.unusedSectionVars false


section

variable (n : Int) (A : Option Addr) (xs : List Int) (cap : Nat) (D : Option Addr) (ws : List Int) (dap : Nat) (e : Int) (w : World) (h : Hid (Ints w w.heap.size A xs)) (g : Hid (Ints w w.heap.size D ws)) (hl : ws.length ≤ 1048576)
include h g hl
set_option maxRecDepth 100000 in
set_option maxHeartbeats 1600000 in
theorem capS_no (q : isBelow n xs ws = false ∨ (isBelow n xs ws = true ∧ (e < 0 ∨ n - 1 < e))) :
    Calls Tryd.prog 22 #[.agg #[.int .i64 n, .slice A xs.length cap], .slice D ws.length dap, .int .i64 e] w (RetV w (.tuple #[.int .i64 0, .bool false])) := by
  have HW := Lib.hid (St.start w)
  have HB := Lib.hid (fun W h1 h2 => belowS_any n A xs cap D ws dap W (Lib.hid h1) (Lib.hid h2) hl)
  rcases q with q | ⟨q, q2⟩
  · rw [q] at HB
    clear q
    go_enter Tryd.func22, Tryd.ntmps22
    go_wp2_with fail
    refine St.use (w0 := w) (by exact HW.out.alloc _ _) ?_
    intro hS
    refine (HB.out _ ((h.out.below hS.base).mono hS.size) ((g.out.below hS.base).mono hS.size)).mono ?_
    rintro e' w1 ⟨rfl, hb⟩
    have HS := Lib.hid (hS.below hb)
    clear hS hb
    go_wp2
    exact bodyPost_ret (v := .tuple #[.int .i64 0, .bool false]) (by simp [results, Tryd.results22, go_sem]) rfl ⟨rfl, HS.out.base⟩
  · obtain ⟨q1, -, -, -⟩ := isBelow_yes q
    obtain ⟨n0, n5, -, -⟩ := isFn_yes (ground_fn q1)
    have hw : IntKind.i64.wrap (n - 1) = n - 1 := IntWalk.i64_in _ (by omega)
    rw [q] at HB
    have Q2 := Lib.hid q2
    clear q q1 q2
    go_enter Tryd.func22, Tryd.ntmps22
    go_wp2_with fail
    refine St.use (w0 := w) (by exact HW.out.alloc _ _) ?_
    intro hS
    refine (HB.out _ ((h.out.below hS.base).mono hS.size) ((g.out.below hS.base).mono hS.size)).mono ?_
    rintro e' w1 ⟨rfl, hb⟩
    have hS1 := hS.below hb
    obtain ⟨b0, -⟩ := hS1.box (i := 0) rfl
    have b00 := b0 0 _ rfl
    have HS := Lib.hid hS1
    clear hS hb b0 hS1
    go_wp2_with (go_at_call 37; refine (in_no e 0 (n - 1) _ Q2.out).mono ?_; rintro e' w2 ⟨rfl, rfl⟩)
    exact bodyPost_ret (v := .tuple #[.int .i64 0, .bool false]) (by simp [results, Tryd.results22, go_sem]) rfl ⟨rfl, HS.out.base⟩

set_option maxRecDepth 100000 in
set_option maxHeartbeats 3200000 in
theorem capS_yes (q : isBelow n xs ws = true) (e0 : 0 ≤ e) (e1 : e < n) :
    Calls Tryd.prog 22 #[.agg #[.int .i64 n, .slice A xs.length cap], .slice D ws.length dap, .int .i64 e] w (RetV w (.tuple #[.int .i64 (capTo xs ws (fun s => s.testBit e.toNat) xs.length), .bool true])) := by
  have HW := Lib.hid (St.start w)
  have HB := Lib.hid (fun W h1 h2 => belowS_any n A xs cap D ws dap W (Lib.hid h1) (Lib.hid h2) hl)
  rw [q] at HB
  obtain ⟨q1, q2, q3, -⟩ := isBelow_yes q
  obtain ⟨h5, hv⟩ := isVec5_yes q3
  have hfn := ground_fn q1
  obtain ⟨n0, n5, -, hxv⟩ := isFn_yes hfn
  have hx32 := (isFn_len hfn).2
  obtain ⟨E, rfl⟩ := Int.eq_ofNat_of_zero_le e0
  rw [Int.toNat_natCast]
  have HWS := Lib.hid (fun W s (h1 : Ints W W.heap.size D ws) (hs : s < 4294967296) => weigh5S_any D ws dap s W (Lib.hid h1) hv h5 hs)
  have HWB := Lib.hid (vec5_weigh q3)
  have HXV := Lib.hid hxv
  have HCB := Lib.hid (fun m hm => capTo_bd (xs := xs) (ws := ws) (p := fun s => s.testBit E) hxv (vec5_weigh q3) m hm)
  have HST := Lib.hid (fun s => (by rfl : capTo xs ws (fun s => s.testBit E) (s + 1) = if s.testBit E = true then min (capTo xs ws (fun s => s.testBit E) s) (xs.getD s 0 - weigh ws s ws.length) else capTo xs ws (fun s => s.testBit E) s))
  have hz : capTo xs ws (fun s => s.testBit E) 0 = 100000 := rfl
  generalize capTo xs ws (fun s => s.testBit E) = f at *
  obtain ⟨p, hp⟩ : ∃ p, xs.length = p := ⟨_, rfl⟩
  obtain ⟨m, hm⟩ : ∃ m, ws.length = m := ⟨_, rfl⟩
  have HP := Lib.hid hp
  rw [hp] at hx32 HB HCB HXV ⊢
  rw [hm] at HB HWS HWB HST h5 ⊢
  have hE : E < 64 := by omega
  have hw : IntKind.i64.wrap (n - 1) = n - 1 := IntWalk.i64_in _ (by omega)
  clear q q1 q2 q3 hv hp hm hl hfn hxv
  go_enter Tryd.func22, Tryd.ntmps22
  go_wp2_with fail
  refine St.use (w0 := w) (by exact HW.out.alloc _ _) ?_
  intro hS
  refine (HB.out _ ((h.out.below hS.base).mono hS.size) ((g.out.below hS.base).mono hS.size)).mono ?_
  rintro e' w1 ⟨rfl, hb⟩
  have hS1 := hS.below hb
  obtain ⟨b0, -⟩ := hS1.box (i := 0) rfl
  have b00 := b0 0 _ rfl
  have HS := Lib.hid hS1
  clear hS hb b0 hS1
  go_wp2_with (go_at_call 37; refine (in_yes _ 0 (n - 1) _ (by omega) (by omega)).mono ?_; rintro e' w2 ⟨rfl, rfl⟩)
  go_loopw [8, 9] (fun c i wr => ∃ s : Nat, i = .int .i64 s ∧ s ≤ p ∧ c = .int .i64 (f s) ∧ St w wr [bx w.heap.size 27 [.int .i64 n, .slice A p cap]]) (fun _ i _ => p - (intOf i).toNat)
  case atStart => exact ⟨0, rfl, Nat.zero_le _, by rw [hz], HS.out⟩
  case round =>
    obtain ⟨s, rfl, hs, rfl, hS⟩ := hrel
    obtain ⟨b0, -⟩ := hS.box (i := 0) rfl
    have d00 := b0 0 _ rfl
    have d01 := b0 1 _ rfl
    clear HS b00 b0 hz
    by_cases hlt : s < p
    · have hsi : (s : Int) < (p : Int) := by omega
      have hs0 : (0 : Int) ≤ (s : Int) := by omega
      obtain ⟨b, off, rfl, hbl, hc⟩ := (h.out.below hS.base).at_ (k := s) (by rw [HP.out]; exact hlt)
      have hq := fun W h1 => HWS.out W s h1 (by omega)
      have hbit := bit_val s E (by omega)
      have hst := HST.out s
      have x1 := HXV.out s hlt
      have y1 := HWB.out s
      have z1 := HCB.out s (by omega)
      generalize xs.getD s 0 = x at hc hst x1
      generalize weigh ws s m = y at hq hst y1
      generalize f s = z at hst z1 ⊢
      have HQ := Lib.hid hq
      have HR := Lib.hid hS
      clear hS hq
      by_cases ht : s.testBit E = true
      · rw [if_pos ht] at hst hbit
        have hxy : IntKind.i64.wrap (x - y) = x - y := IntWalk.i64_in _ (by omega)
        by_cases hmin : x - y < z
        · rw [Int.min_eq_right (by omega)] at hst
          have HT := Lib.hid hst
          clear hst
          go_wp2
          go_region_held3 (fun w' => w'.cell? ⟨w.heap.size, 1, none⟩ = some (.slice (some ⟨b, off, none⟩) p cap) ∧ w'.cell? ⟨b, off + s, none⟩ = some (.int .i64 x)) (first | (refine ⟨?_, ?_⟩ <;> assumption) | assumption | go_keep) ((go_at_call 29; refine (HQ.out _ ?_).mono ?_; (first | exact (g.out.below HR.out.base).mono HR.out.size | exact (g.out.below HR.out.drew.base).mono HR.out.drew.size); rintro e' w2 ⟨rfl, q, rfl⟩))
          go_wp2
          go_roundw
          case rel => exact ⟨s + 1, by go_num, by omega, by rw [HT.out], HR.out.drewN _⟩
          case measure => simp [intOf]; omega
        · rw [Int.min_eq_left (by omega)] at hst
          have HT := Lib.hid hst
          clear hst
          go_wp2
          go_region_held3 (fun w' => w'.cell? ⟨w.heap.size, 1, none⟩ = some (.slice (some ⟨b, off, none⟩) p cap) ∧ w'.cell? ⟨b, off + s, none⟩ = some (.int .i64 x)) (first | (refine ⟨?_, ?_⟩ <;> assumption) | assumption | go_keep) ((go_at_call 29; refine (HQ.out _ ?_).mono ?_; (first | exact (g.out.below HR.out.base).mono HR.out.size | exact (g.out.below HR.out.drew.base).mono HR.out.drew.size); rintro e' w2 ⟨rfl, q, rfl⟩))
          go_wp2
          go_roundw
          case rel => exact ⟨s + 1, by go_num, by omega, by rw [HT.out, if_neg (by omega)], HR.out.drewN _⟩
          case measure => simp [intOf]; omega
      · rw [if_neg ht] at hst hbit
        have HT := Lib.hid hst
        clear hst
        go_wp2
        go_roundw
        case rel => exact ⟨s + 1, by go_num, by omega, by rw [HT.out], HR.out⟩
        case measure => simp [intOf]; omega
    · obtain rfl : s = p := by omega
      have hsi : ¬ (s : Int) < (s : Int) := by omega
      have HR := Lib.hid hS
      clear hS
      go_wp2
      exact bodyPost_ret (v := .tuple #[.int .i64 (f s), .bool true]) (by simp [results, Tryd.results22, go_sem]) rfl ⟨rfl, HR.out.base⟩
theorem capS_any : Calls Tryd.prog 22 #[.agg #[.int .i64 n, .slice A xs.length cap], .slice D ws.length dap, .int .i64 e] w (RetV w (.tuple #[.int .i64 (capOf n xs ws e).1, .bool (capOf n xs ws e).2])) := by
  unfold capOf
  cases q : isBelow n xs ws
  · rw [if_neg (by simp)]
    exact capS_no n A xs cap D ws dap e w h g hl (.inl q)
  · by_cases he : 0 ≤ e ∧ e < n
    · rw [if_pos ⟨rfl, he⟩]
      exact capS_yes n A xs cap D ws dap e w h g hl q he.1 he.2
    · rw [if_neg fun hh => he hh.2]
      exact capS_no n A xs cap D ws dap e w h g hl (.inr ⟨q, by omega⟩)

end


end Go.Proofs.YtpefnfkodcidkaaDoor.C
