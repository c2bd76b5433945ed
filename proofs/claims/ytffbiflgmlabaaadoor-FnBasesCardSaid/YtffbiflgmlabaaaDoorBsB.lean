/-
  The contracts of spec's chapter 8: capacities, tight sets, bases.
  The contracts of spec's chapter 8: exchange capacities.
  The contract of spec.TightSets.
-/
import Derived.Test.YtffbiflgmlabaaaDoorBsS
import Derived.Test.YtffbiflgmlabaaaDoorVal
namespace Go.Proofs.YtffbiflgmlabaaaDoor.C
open Go.RowKit K M
set_option linter.unusedVariables false
set_option linter.unusedSimpArgs false
set_option linter.unusedSectionVars false


section

variable (n : Int) (A : Option Addr) (xs : List Int) (cap : Nat) (D : Option Addr) (ws : List Int) (dap : Nat) (e : Int) (w : World) (h : Hid (Ints w w.heap.size A xs)) (g : Hid (Ints w w.heap.size D ws)) (hl : ws.length ≤ 1048576)
include h g hl
set_option maxRecDepth 100000 in
set_option maxHeartbeats 1600000 in
theorem capS_no (q : isBelow n xs ws = false ∨ (isBelow n xs ws = true ∧ (e < 0 ∨ n - 1 < e))) :
    Calls Tryd.prog 21 #[.agg #[.int .i64 n, .slice A xs.length cap], .slice D ws.length dap, .int .i64 e] w (RetV w (.tuple #[.int .i64 0, .bool false])) := by
  have HW := Lib.hid (St.start w)
  have HB := Lib.hid (fun W h1 h2 => belowS_any n A xs cap D ws dap W (Lib.hid h1) (Lib.hid h2) hl)
  rcases q with q | ⟨q, q2⟩
  · rw [q] at HB
    clear q
    go_enter Tryd.func21, Tryd.ntmps21
    go_wp2_with fail
    refine St.use (w0 := w) (by exact HW.out.alloc _ _) ?_
    intro hS
    refine (HB.out _ ((h.out.below hS.base).mono hS.size) ((g.out.below hS.base).mono hS.size)).mono ?_
    rintro e' w1 ⟨rfl, hb⟩
    have HS := Lib.hid (hS.below hb)
    clear hS hb
    go_wp2
    exact bodyPost_ret (v := .tuple #[.int .i64 0, .bool false]) (by simp [results, Tryd.results21, go_sem]) rfl ⟨rfl, HS.out.base⟩
  · obtain ⟨q1, -, -, -⟩ := isBelow_yes q
    obtain ⟨n0, n5, -, -⟩ := isFn_yes (ground_fn q1)
    have hw : IntKind.i64.wrap (n - 1) = n - 1 := IntWalk.i64_in _ (by omega)
    rw [q] at HB
    have Q2 := Lib.hid q2
    clear q q1 q2
    go_enter Tryd.func21, Tryd.ntmps21
    go_wp2_with fail
    refine St.use (w0 := w) (by exact HW.out.alloc _ _) ?_
    intro hS
    refine (HB.out _ ((h.out.below hS.base).mono hS.size) ((g.out.below hS.base).mono hS.size)).mono ?_
    rintro e' w1 ⟨rfl, hb⟩
    have hS1 := hS.below hb
    obtain ⟨b0, -⟩ := hS1.box (i := 0) rfl
    have b00 := b0 0 _ rfl
    have HS := Lib.hid hS1
    clear hS hb b0 hS1
    go_wp2_with (go_at_call 67; refine (in_no e 0 (n - 1) _ Q2.out).mono ?_; rintro e' w2 ⟨rfl, rfl⟩)
    exact bodyPost_ret (v := .tuple #[.int .i64 0, .bool false]) (by simp [results, Tryd.results21, go_sem]) rfl ⟨rfl, HS.out.base⟩

set_option maxRecDepth 100000 in
set_option maxHeartbeats 3200000 in
theorem capS_yes (q : isBelow n xs ws = true) (e0 : 0 ≤ e) (e1 : e < n) :
    Calls Tryd.prog 21 #[.agg #[.int .i64 n, .slice A xs.length cap], .slice D ws.length dap, .int .i64 e] w (RetV w (.tuple #[.int .i64 (capTo xs ws (fun s => s.testBit e.toNat) xs.length), .bool true])) := by
  have HW := Lib.hid (St.start w)
  have HB := Lib.hid (fun W h1 h2 => belowS_any n A xs cap D ws dap W (Lib.hid h1) (Lib.hid h2) hl)
  rw [q] at HB
  obtain ⟨q1, q2, q3, -⟩ := isBelow_yes q
  obtain ⟨h5, hv⟩ := isVec5_yes q3
  have hfn := ground_fn q1
  obtain ⟨n0, n5, -, hxv⟩ := isFn_yes hfn
  have hx32 := (isFn_len hfn).2
  obtain ⟨E, rfl⟩ := Int.eq_ofNat_of_zero_le e0
  rw [Int.toNat_natCast]
  have HWS := Lib.hid (fun W s (h1 : Ints W W.heap.size D ws) (hs : s < 4294967296) => weigh5S_any D ws dap s W (Lib.hid h1) hv h5 hs)
  have HWB := Lib.hid (vec5_weigh q3)
  have HXV := Lib.hid hxv
  have HCB := Lib.hid (fun m hm => capTo_bd (xs := xs) (ws := ws) (p := fun s => s.testBit E) hxv (vec5_weigh q3) m hm)
  have HST := Lib.hid (fun s => (by rfl : capTo xs ws (fun s => s.testBit E) (s + 1) = if s.testBit E = true then min (capTo xs ws (fun s => s.testBit E) s) (xs.getD s 0 - weigh ws s ws.length) else capTo xs ws (fun s => s.testBit E) s))
  have hz : capTo xs ws (fun s => s.testBit E) 0 = 100000 := rfl
  generalize capTo xs ws (fun s => s.testBit E) = f at *
  obtain ⟨p, hp⟩ : ∃ p, xs.length = p := ⟨_, rfl⟩
  obtain ⟨m, hm⟩ : ∃ m, ws.length = m := ⟨_, rfl⟩
  have HP := Lib.hid hp
  rw [hp] at hx32 HB HCB HXV ⊢
  rw [hm] at HB HWS HWB HST h5 ⊢
  have hE : E < 64 := by omega
  have hw : IntKind.i64.wrap (n - 1) = n - 1 := IntWalk.i64_in _ (by omega)
  clear q q1 q2 q3 hv hp hm hl hfn hxv
  go_enter Tryd.func21, Tryd.ntmps21
  go_wp2_with fail
  refine St.use (w0 := w) (by exact HW.out.alloc _ _) ?_
  intro hS
  refine (HB.out _ ((h.out.below hS.base).mono hS.size) ((g.out.below hS.base).mono hS.size)).mono ?_
  rintro e' w1 ⟨rfl, hb⟩
  have hS1 := hS.below hb
  obtain ⟨b0, -⟩ := hS1.box (i := 0) rfl
  have b00 := b0 0 _ rfl
  have HS := Lib.hid hS1
  clear hS hb b0 hS1
  go_wp2_with (go_at_call 67; refine (in_yes _ 0 (n - 1) _ (by omega) (by omega)).mono ?_; rintro e' w2 ⟨rfl, rfl⟩)
  go_loopw [8, 9] (fun c i wr => ∃ s : Nat, i = .int .i64 s ∧ s ≤ p ∧ c = .int .i64 (f s) ∧ St w wr [bx w.heap.size 26 [.int .i64 n, .slice A p cap]]) (fun _ i _ => p - (intOf i).toNat)
  case atStart => exact ⟨0, rfl, Nat.zero_le _, by rw [hz], HS.out⟩
  case round =>
    obtain ⟨s, rfl, hs, rfl, hS⟩ := hrel
    obtain ⟨b0, -⟩ := hS.box (i := 0) rfl
    have d00 := b0 0 _ rfl
    have d01 := b0 1 _ rfl
    clear HS b00 b0 hz
    by_cases hlt : s < p
    · have hsi : (s : Int) < (p : Int) := by omega
      have hs0 : (0 : Int) ≤ (s : Int) := by omega
      obtain ⟨b, off, rfl, hbl, hc⟩ := (h.out.below hS.base).at_ (k := s) (by rw [HP.out]; exact hlt)
      have hq := fun W h1 => HWS.out W s h1 (by omega)
      have hbit := bit_val s E (by omega)
      have hst := HST.out s
      have x1 := HXV.out s hlt
      have y1 := HWB.out s
      have z1 := HCB.out s (by omega)
      generalize xs.getD s 0 = x at hc hst x1
      generalize weigh ws s m = y at hq hst y1
      generalize f s = z at hst z1 ⊢
      have HQ := Lib.hid hq
      have HR := Lib.hid hS
      clear hS hq
      by_cases ht : s.testBit E = true
      · rw [if_pos ht] at hst hbit
        have hxy : IntKind.i64.wrap (x - y) = x - y := IntWalk.i64_in _ (by omega)
        by_cases hmin : x - y < z
        · rw [Int.min_eq_right (by omega)] at hst
          have HT := Lib.hid hst
          clear hst
          go_wp2
          go_region_held3 (fun w' => w'.cell? ⟨w.heap.size, 1, none⟩ = some (.slice (some ⟨b, off, none⟩) p cap) ∧ w'.cell? ⟨b, off + s, none⟩ = some (.int .i64 x)) (first | (refine ⟨?_, ?_⟩ <;> assumption) | assumption | go_keep) ((go_at_call 55; refine (HQ.out _ ?_).mono ?_; (first | exact (g.out.below HR.out.base).mono HR.out.size | exact (g.out.below HR.out.drew.base).mono HR.out.drew.size); rintro e' w2 ⟨rfl, q, rfl⟩))
          go_wp2
          go_roundw
          case rel => exact ⟨s + 1, by go_num, by omega, by rw [HT.out], HR.out.drewN _⟩
          case measure => simp [intOf]; omega
        · rw [Int.min_eq_left (by omega)] at hst
          have HT := Lib.hid hst
          clear hst
          go_wp2
          go_region_held3 (fun w' => w'.cell? ⟨w.heap.size, 1, none⟩ = some (.slice (some ⟨b, off, none⟩) p cap) ∧ w'.cell? ⟨b, off + s, none⟩ = some (.int .i64 x)) (first | (refine ⟨?_, ?_⟩ <;> assumption) | assumption | go_keep) ((go_at_call 55; refine (HQ.out _ ?_).mono ?_; (first | exact (g.out.below HR.out.base).mono HR.out.size | exact (g.out.below HR.out.drew.base).mono HR.out.drew.size); rintro e' w2 ⟨rfl, q, rfl⟩))
          go_wp2
          go_roundw
          case rel => exact ⟨s + 1, by go_num, by omega, by rw [HT.out, if_neg (by omega)], HR.out.drewN _⟩
          case measure => simp [intOf]; omega
      · rw [if_neg ht] at hst hbit
        have HT := Lib.hid hst
        clear hst
        go_wp2
        go_roundw
        case rel => exact ⟨s + 1, by go_num, by omega, by rw [HT.out], HR.out⟩
        case measure => simp [intOf]; omega
    · obtain rfl : s = p := by omega
      have hsi : ¬ (s : Int) < (s : Int) := by omega
      have HR := Lib.hid hS
      clear hS
      go_wp2
      exact bodyPost_ret (v := .tuple #[.int .i64 (f s), .bool true]) (by simp [results, Tryd.results21, go_sem]) rfl ⟨rfl, HR.out.base⟩
theorem capS_any : Calls Tryd.prog 21 #[.agg #[.int .i64 n, .slice A xs.length cap], .slice D ws.length dap, .int .i64 e] w (RetV w (.tuple #[.int .i64 (capOf n xs ws e).1, .bool (capOf n xs ws e).2])) := by
  unfold capOf
  cases q : isBelow n xs ws
  · rw [if_neg (by simp)]
    exact capS_no n A xs cap D ws dap e w h g hl (.inl q)
  · by_cases he : 0 ≤ e ∧ e < n
    · rw [if_pos ⟨rfl, he⟩]
      exact capS_yes n A xs cap D ws dap e w h g hl q he.1 he.2
    · rw [if_neg fun hh => he hh.2]
      exact capS_no n A xs cap D ws dap e w h g hl (.inr ⟨q, by omega⟩)

end


end Go.Proofs.YtffbiflgmlabaaaDoor.C

namespace Go.Proofs.YtffbiflgmlabaaaDoor.C
open Go.RowKit K M
set_option linter.unusedVariables false
set_option linter.unusedSimpArgs false
set_option linter.unusedSectionVars false


section

variable (n : Int) (A : Option Addr) (xs : List Int) (cap : Nat) (D : Option Addr) (ws : List Int) (dap : Nat) (e d : Int) (w : World) (h : Hid (Ints w w.heap.size A xs)) (g : Hid (Ints w w.heap.size D ws)) (hl : ws.length ≤ 1048576)
include h g hl
set_option maxRecDepth 100000 in
set_option maxHeartbeats 1600000 in
theorem exchS_no (q : isBelow n xs ws = false ∨ (isBelow n xs ws = true ∧ (e < 0 ∨ n - 1 < e)) ∨ (isBelow n xs ws = true ∧ (0 ≤ e ∧ e ≤ n - 1) ∧ (d < 0 ∨ n - 1 < d)) ∨ (isBelow n xs ws = true ∧ (0 ≤ e ∧ e ≤ n - 1) ∧ e = d)) :
    Calls Tryd.prog 24 #[.agg #[.int .i64 n, .slice A xs.length cap], .slice D ws.length dap, .int .i64 e, .int .i64 d] w (RetV w (.tuple #[.int .i64 0, .bool false])) := by
  have HW := Lib.hid (St.start w)
  have HB := Lib.hid (fun W h1 h2 => belowS_any n A xs cap D ws dap W (Lib.hid h1) (Lib.hid h2) hl)
  rcases q with q | ⟨q, q2⟩ | ⟨q, q3, q2⟩ | ⟨q, q3, rfl⟩
  · rw [q] at HB
    clear q
    go_enter Tryd.func24, Tryd.ntmps24
    go_wp2_with fail
    refine St.use (w0 := w) (by exact HW.out.alloc _ _) ?_
    intro hS
    refine (HB.out _ ((h.out.below hS.base).mono hS.size) ((g.out.below hS.base).mono hS.size)).mono ?_
    rintro e' w1 ⟨rfl, hb⟩
    have HS := Lib.hid (hS.below hb)
    clear hS hb
    go_wp2
    exact bodyPost_ret (v := .tuple #[.int .i64 0, .bool false]) (by simp [results, Tryd.results24, go_sem]) rfl ⟨rfl, HS.out.base⟩
  · obtain ⟨q1, -, -, -⟩ := isBelow_yes q
    obtain ⟨n0, n5, -, -⟩ := isFn_yes (ground_fn q1)
    have hw : IntKind.i64.wrap (n - 1) = n - 1 := IntWalk.i64_in _ (by omega)
    rw [q] at HB
    have Q2 := Lib.hid q2
    clear q q1 q2
    go_enter Tryd.func24, Tryd.ntmps24
    go_wp2_with fail
    refine St.use (w0 := w) (by exact HW.out.alloc _ _) ?_
    intro hS
    refine (HB.out _ ((h.out.below hS.base).mono hS.size) ((g.out.below hS.base).mono hS.size)).mono ?_
    rintro e' w1 ⟨rfl, hb⟩
    have hS1 := hS.below hb
    obtain ⟨b0, -⟩ := hS1.box (i := 0) rfl
    have b00 := b0 0 _ rfl
    have HS := Lib.hid hS1
    clear hS hb b0 hS1
    go_wp2_with (go_at_call 67; refine (in_no e 0 (n - 1) _ Q2.out).mono ?_; rintro e' w2 ⟨rfl, rfl⟩)
    exact bodyPost_ret (v := .tuple #[.int .i64 0, .bool false]) (by simp [results, Tryd.results24, go_sem]) rfl ⟨rfl, HS.out.base⟩
  · obtain ⟨q1, -, -, -⟩ := isBelow_yes q
    obtain ⟨n0, n5, -, -⟩ := isFn_yes (ground_fn q1)
    have hw : IntKind.i64.wrap (n - 1) = n - 1 := IntWalk.i64_in _ (by omega)
    rw [q] at HB
    have Q2 := Lib.hid q2
    have Q3 := Lib.hid q3
    clear q q1 q2 q3
    go_enter Tryd.func24, Tryd.ntmps24
    go_wp2_with fail
    refine St.use (w0 := w) (by exact HW.out.alloc _ _) ?_
    intro hS
    refine (HB.out _ ((h.out.below hS.base).mono hS.size) ((g.out.below hS.base).mono hS.size)).mono ?_
    rintro e' w1 ⟨rfl, hb⟩
    have hS1 := hS.below hb
    obtain ⟨b0, -⟩ := hS1.box (i := 0) rfl
    have b00 := b0 0 _ rfl
    have HS := Lib.hid hS1
    clear hS hb b0 hS1
    go_wp2_with (first | (go_at_call_of 67 (Value.int .i64 e); refine (in_yes e 0 (n - 1) _ Q3.out.1 Q3.out.2).mono ?_; rintro e' w2 ⟨rfl, rfl⟩) | (go_at_call_of 67 (Value.int .i64 d); refine (in_no d 0 (n - 1) _ Q2.out).mono ?_; rintro e' w2 ⟨rfl, rfl⟩))
    exact bodyPost_ret (v := .tuple #[.int .i64 0, .bool false]) (by simp [results, Tryd.results24, go_sem]) rfl ⟨rfl, HS.out.base⟩
  · obtain ⟨q1, -, -, -⟩ := isBelow_yes q
    obtain ⟨n0, n5, -, -⟩ := isFn_yes (ground_fn q1)
    have hw : IntKind.i64.wrap (n - 1) = n - 1 := IntWalk.i64_in _ (by omega)
    rw [q] at HB
    have Q3 := Lib.hid q3
    clear q q1 q3
    go_enter Tryd.func24, Tryd.ntmps24
    go_wp2_with fail
    refine St.use (w0 := w) (by exact HW.out.alloc _ _) ?_
    intro hS
    refine (HB.out _ ((h.out.below hS.base).mono hS.size) ((g.out.below hS.base).mono hS.size)).mono ?_
    rintro e' w1 ⟨rfl, hb⟩
    have hS1 := hS.below hb
    obtain ⟨b0, -⟩ := hS1.box (i := 0) rfl
    have b00 := b0 0 _ rfl
    have HS := Lib.hid hS1
    clear hS hb b0 hS1
    go_wp2_with (go_at_call 67; refine (in_yes e 0 (n - 1) _ Q3.out.1 Q3.out.2).mono ?_; rintro e' w2 ⟨rfl, rfl⟩)
    exact bodyPost_ret (v := .tuple #[.int .i64 0, .bool false]) (by simp [results, Tryd.results24, go_sem]) rfl ⟨rfl, HS.out.base⟩

set_option maxRecDepth 100000 in
set_option maxHeartbeats 3200000 in
theorem exchS_yes (q : isBelow n xs ws = true) (e0 : 0 ≤ e) (e1 : e < n) (d0 : 0 ≤ d) (d1 : d < n) (hed : e ≠ d) :
    Calls Tryd.prog 24 #[.agg #[.int .i64 n, .slice A xs.length cap], .slice D ws.length dap, .int .i64 e, .int .i64 d] w (RetV w (.tuple #[.int .i64 (capTo xs ws (fun s => s.testBit e.toNat && !s.testBit d.toNat) xs.length), .bool true])) := by
  have HW := Lib.hid (St.start w)
  have HB := Lib.hid (fun W h1 h2 => belowS_any n A xs cap D ws dap W (Lib.hid h1) (Lib.hid h2) hl)
  rw [q] at HB
  obtain ⟨q1, q2, q3, -⟩ := isBelow_yes q
  obtain ⟨h5, hv⟩ := isVec5_yes q3
  have hfn := ground_fn q1
  obtain ⟨n0, n5, -, hxv⟩ := isFn_yes hfn
  have hx32 := (isFn_len hfn).2
  obtain ⟨E, rfl⟩ := Int.eq_ofNat_of_zero_le e0
  obtain ⟨Z, rfl⟩ := Int.eq_ofNat_of_zero_le d0
  rw [Int.toNat_natCast, Int.toNat_natCast]
  have hez : ((E : Int) == (Z : Int)) = false := beq_eq_false_iff_ne.2 hed
  have HWS := Lib.hid (fun W s (h1 : Ints W W.heap.size D ws) (hs : s < 4294967296) => weigh5S_any D ws dap s W (Lib.hid h1) hv h5 hs)
  have HWB := Lib.hid (vec5_weigh q3)
  have HXV := Lib.hid hxv
  have HCB := Lib.hid (fun m hm => capTo_bd (xs := xs) (ws := ws) (p := fun s => s.testBit E && !s.testBit Z) hxv (vec5_weigh q3) m hm)
  have HST := Lib.hid (fun s => (by rfl : capTo xs ws (fun s => s.testBit E && !s.testBit Z) (s + 1) = if (s.testBit E && !s.testBit Z) = true then min (capTo xs ws (fun s => s.testBit E && !s.testBit Z) s) (xs.getD s 0 - weigh ws s ws.length) else capTo xs ws (fun s => s.testBit E && !s.testBit Z) s))
  have hz : capTo xs ws (fun s => s.testBit E && !s.testBit Z) 0 = 100000 := rfl
  generalize capTo xs ws (fun s => s.testBit E && !s.testBit Z) = f at *
  obtain ⟨p, hp⟩ : ∃ p, xs.length = p := ⟨_, rfl⟩
  obtain ⟨m, hm⟩ : ∃ m, ws.length = m := ⟨_, rfl⟩
  have HP := Lib.hid hp
  rw [hp] at hx32 HB HCB HXV ⊢
  rw [hm] at HB HWS HWB HST h5 ⊢
  have hE : E < 64 := by omega
  have hZ : Z < 64 := by omega
  have hw : IntKind.i64.wrap (n - 1) = n - 1 := IntWalk.i64_in _ (by omega)
  clear q q1 q2 q3 hv hp hm hl hfn hxv
  go_enter Tryd.func24, Tryd.ntmps24
  go_wp2_with fail
  refine St.use (w0 := w) (by exact HW.out.alloc _ _) ?_
  intro hS
  refine (HB.out _ ((h.out.below hS.base).mono hS.size) ((g.out.below hS.base).mono hS.size)).mono ?_
  rintro e' w1 ⟨rfl, hb⟩
  have hS1 := hS.below hb
  obtain ⟨b0, -⟩ := hS1.box (i := 0) rfl
  have b00 := b0 0 _ rfl
  have HS := Lib.hid hS1
  clear hS hb b0 hS1
  go_wp2_with (first | (go_at_call_of 67 (Value.int .i64 (E : Int)); refine (in_yes _ 0 (n - 1) _ (by omega) (by omega)).mono ?_; rintro e' w2 ⟨rfl, rfl⟩) | (go_at_call_of 67 (Value.int .i64 (Z : Int)); refine (in_yes _ 0 (n - 1) _ (by omega) (by omega)).mono ?_; rintro e' w2 ⟨rfl, rfl⟩))
  go_loopw [10, 11] (fun c i wr => ∃ s : Nat, i = .int .i64 s ∧ s ≤ p ∧ c = .int .i64 (f s) ∧ St w wr [bx w.heap.size 26 [.int .i64 n, .slice A p cap]]) (fun _ i _ => p - (intOf i).toNat)
  case atStart => exact ⟨0, rfl, Nat.zero_le _, by rw [hz], HS.out⟩
  case round =>
    obtain ⟨s, rfl, hs, rfl, hS⟩ := hrel
    obtain ⟨b0, -⟩ := hS.box (i := 0) rfl
    have d00 := b0 0 _ rfl
    have d01 := b0 1 _ rfl
    clear HS b00 b0 hz
    by_cases hlt : s < p
    · have hsi : (s : Int) < (p : Int) := by omega
      have hs0 : (0 : Int) ≤ (s : Int) := by omega
      obtain ⟨b, off, rfl, hbl, hc⟩ := (h.out.below hS.base).at_ (k := s) (by rw [HP.out]; exact hlt)
      have hq := fun W h1 => HWS.out W s h1 (by omega)
      have hbit := bit_val s E (by omega)
      have hbit2 := bit_val s Z (by omega)
      have hst := HST.out s
      have x1 := HXV.out s hlt
      have y1 := HWB.out s
      have z1 := HCB.out s (by omega)
      generalize xs.getD s 0 = x at hc hst x1
      generalize weigh ws s m = y at hq hst y1
      generalize f s = z at hst z1 ⊢
      have HQ := Lib.hid hq
      have HR := Lib.hid hS
      clear hS hq
      cases ht : s.testBit E
      · rw [ht] at hst
        rw [if_neg (by simp)] at hst
        rw [if_neg (by rw [ht]; decide)] at hbit
        have HT := Lib.hid hst
        clear hst
        go_wp2
        go_roundw
        case rel => exact ⟨s + 1, by go_num, by omega, by rw [HT.out], HR.out⟩
        case measure => simp [intOf]; omega
      · cases htz : s.testBit Z
        · rw [ht, htz] at hst
          rw [if_pos (by rfl)] at hst
          rw [if_pos ht] at hbit
          rw [if_neg (by rw [htz]; decide)] at hbit2
          have hxy : IntKind.i64.wrap (x - y) = x - y := IntWalk.i64_in _ (by omega)
          by_cases hmin : x - y < z
          · rw [Int.min_eq_right (by omega)] at hst
            have HT := Lib.hid hst
            clear hst
            go_wp2
            go_region_held3 (fun w' => w'.cell? ⟨w.heap.size, 1, none⟩ = some (.slice (some ⟨b, off, none⟩) p cap) ∧ w'.cell? ⟨b, off + s, none⟩ = some (.int .i64 x)) (first | (refine ⟨?_, ?_⟩ <;> assumption) | assumption | go_keep) ((go_at_call 55; refine (HQ.out _ ?_).mono ?_; (first | exact (g.out.below HR.out.base).mono HR.out.size | exact (g.out.below HR.out.drew.base).mono HR.out.drew.size); rintro e' w2 ⟨rfl, q, rfl⟩))
            go_wp2
            go_roundw
            case rel => exact ⟨s + 1, by go_num, by omega, by rw [HT.out], HR.out.drewN _⟩
            case measure => simp [intOf]; omega
          · rw [Int.min_eq_left (by omega)] at hst
            have HT := Lib.hid hst
            clear hst
            go_wp2
            go_region_held3 (fun w' => w'.cell? ⟨w.heap.size, 1, none⟩ = some (.slice (some ⟨b, off, none⟩) p cap) ∧ w'.cell? ⟨b, off + s, none⟩ = some (.int .i64 x)) (first | (refine ⟨?_, ?_⟩ <;> assumption) | assumption | go_keep) ((go_at_call 55; refine (HQ.out _ ?_).mono ?_; (first | exact (g.out.below HR.out.base).mono HR.out.size | exact (g.out.below HR.out.drew.base).mono HR.out.drew.size); rintro e' w2 ⟨rfl, q, rfl⟩))
            go_wp2
            go_roundw
            case rel => exact ⟨s + 1, by go_num, by omega, by rw [HT.out, if_neg (by omega)], HR.out.drewN _⟩
            case measure => simp [intOf]; omega
        · rw [ht, htz] at hst
          rw [if_neg (by decide)] at hst
          rw [if_pos ht] at hbit
          rw [if_pos htz] at hbit2
          have HT := Lib.hid hst
          clear hst
          go_wp2
          go_roundw
          case rel => exact ⟨s + 1, by go_num, by omega, by rw [HT.out], HR.out⟩
          case measure => simp [intOf]; omega
    · obtain rfl : s = p := by omega
      have hsi : ¬ (s : Int) < (s : Int) := by omega
      have HR := Lib.hid hS
      clear hS
      go_wp2
      exact bodyPost_ret (v := .tuple #[.int .i64 (f s), .bool true]) (by simp [results, Tryd.results24, go_sem]) rfl ⟨rfl, HR.out.base⟩
theorem exchS_any : Calls Tryd.prog 24 #[.agg #[.int .i64 n, .slice A xs.length cap], .slice D ws.length dap, .int .i64 e, .int .i64 d] w (RetV w (.tuple #[.int .i64 (exchOf n xs ws e d).1, .bool (exchOf n xs ws e d).2])) := by
  unfold exchOf
  cases q : isBelow n xs ws
  · rw [if_neg (by simp)]
    exact exchS_no n A xs cap D ws dap e d w h g hl (.inl q)
  · by_cases he : 0 ≤ e ∧ e < n
    · by_cases hd : 0 ≤ d ∧ d < n
      · by_cases hed : e = d
        · rw [if_neg fun hh => hh.2.2.2 hed]
          exact exchS_no n A xs cap D ws dap e d w h g hl (.inr (.inr (.inr ⟨q, by omega, hed⟩)))
        · rw [if_pos ⟨rfl, he, hd, hed⟩]
          exact exchS_yes n A xs cap D ws dap e d w h g hl q he.1 he.2 hd.1 hd.2 hed
      · rw [if_neg fun hh => hd hh.2.2.1]
        exact exchS_no n A xs cap D ws dap e d w h g hl (.inr (.inr (.inl ⟨q, by omega, by omega⟩)))
    · rw [if_neg fun hh => he hh.2.1]
      exact exchS_no n A xs cap D ws dap e d w h g hl (.inr (.inl ⟨q, by omega⟩))

end


end Go.Proofs.YtffbiflgmlabaaaDoor.C

namespace Go.Proofs.YtffbiflgmlabaaaDoor.C
open Go.RowKit K M
set_option linter.unusedVariables false
set_option linter.unusedSimpArgs false
set_option linter.unusedSectionVars false


section

variable (n : Int) (A : Option Addr) (xs : List Int) (cap : Nat) (D : Option Addr) (ws : List Int) (dap : Nat) (w : World) (h : Hid (Ints w w.heap.size A xs)) (g : Hid (Ints w w.heap.size D ws)) (hl : ws.length ≤ 1048576)
include h g hl
set_option maxRecDepth 100000 in
set_option maxHeartbeats 1600000 in
theorem tightS_no (q : isBelow n xs ws = false) :
    Calls Tryd.prog 11 #[.agg #[.int .i64 n, .slice A xs.length cap], .slice D ws.length dap] w (RetIB w [] false) := by
  have HW := Lib.hid (St.start w)
  have HB := Lib.hid (fun W h1 h2 => belowS_any n A xs cap D ws dap W (Lib.hid h1) (Lib.hid h2) hl)
  rw [q] at HB
  clear q
  go_enter Tryd.func11, Tryd.ntmps11
  go_wp2
  have HS := Lib.hid ((HW.out.alloc [.int .i64 n, .slice A xs.length cap] 26).empty)
  simp only [World.size_alloc] at HS
  go_loopw [6, 7] (fun v i wr => i = .int .i64 0 ∧ v = .slice (some ⟨w.heap.size + 1, 0, none⟩) 0 0 ∧ St w wr [il (.slice (some ⟨w.heap.size + 1, 0, none⟩) 0 0) 0 [], bx w.heap.size 26 [.int .i64 n, .slice A xs.length cap]]) (fun _ _ _ => 0)
  case atStart => exact ⟨rfl, by simp, by simpa using HS.out⟩
  case round =>
    obtain ⟨rfl, rfl, hS⟩ := hrel
    obtain ⟨b0, -⟩ := hS.box (i := 1) rfl
    have d00 := b0 0 _ rfl
    have d01 := b0 1 _ rfl
    clear b0 HS
    have HS := Lib.hid hS
    clear hS
    go_wp2_with fail
    refine (HB.out _ ((h.out.below HS.out.base).mono HS.out.size) ((g.out.below HS.out.base).mono HS.out.size)).mono ?_
    rintro e w2 ⟨rfl, hb⟩
    have hS2 := HS.out.below hb
    obtain ⟨b0, -⟩ := hS2.box (i := 1) rfl
    have f00 := b0 0 _ rfl
    have f01 := b0 1 _ rfl
    have HS2 := Lib.hid hS2
    clear hS2 hb b0 d00 d01 HS
    go_wp2_with fail
    refine (HB.out _ ((h.out.below HS2.out.base).mono HS2.out.size) ((g.out.below HS2.out.base).mono HS2.out.size)).mono ?_
    rintro e w3 ⟨rfl, hb⟩
    have HS3 := Lib.hid (HS2.out.below hb)
    clear hb f00 f01 HS2
    go_wp2
    go_ret2
    exact ⟨_, _, rfl, HS3.out.ownI (i := 0) rfl, HS3.out.base⟩

set_option maxRecDepth 100000 in
set_option maxHeartbeats 4000000 in
theorem tightS_yes (q : isBelow n xs ws = true) :
    Calls Tryd.prog 11 #[.agg #[.int .i64 n, .slice A xs.length cap], .slice D ws.length dap] w (RetIB w (tightTo xs ws xs.length) true) := by
  have HW := Lib.hid (St.start w)
  have HB := Lib.hid (fun W h1 h2 => belowS_any n A xs cap D ws dap W (Lib.hid h1) (Lib.hid h2) hl)
  rw [q] at HB
  obtain ⟨q1, q2, q3, -⟩ := isBelow_yes q
  obtain ⟨h5, hv⟩ := isVec5_yes q3
  have hx32 := (isFn_len (ground_fn q1)).2
  have HWS := Lib.hid (fun W s (h1 : Ints W W.heap.size D ws) (hs : s < 4294967296) => weigh5S_any D ws dap s W (Lib.hid h1) hv h5 hs)
  have HST := Lib.hid (fun s => (by rfl : tightTo xs ws (s + 1) = if weigh ws s ws.length = xs.getD s 0 then tightTo xs ws s ++ [(s : Int)] else tightTo xs ws s))
  have HLE := Lib.hid (fun s => tightTo_len xs ws s)
  have hz : tightTo xs ws 0 = [] := rfl
  generalize tightTo xs ws = f at *
  obtain ⟨p, hp⟩ : ∃ p, xs.length = p := ⟨_, rfl⟩
  obtain ⟨m, hm⟩ : ∃ m, ws.length = m := ⟨_, rfl⟩
  have HP := Lib.hid hp
  rw [hp] at hx32 HB ⊢
  rw [hm] at HB HWS HST ⊢
  clear q q1 q2 q3 hv hp hm hl h5
  obtain ⟨i0, hi, hz0, hz1, hz2⟩ := info_parts info_int
  go_enter Tryd.func11, Tryd.ntmps11
  go_wp2
  have HS := Lib.hid ((HW.out.alloc [.int .i64 n, .slice A p cap] 26).empty)
  simp only [World.size_alloc] at HS
  go_loopw [6, 7] (fun v i wr => ∃ (s k : Nat) (V : Option Addr) (c : Nat), i = .int .i64 s ∧ s ≤ p ∧ k ≤ s ∧ v = .slice V k c ∧ St w wr [il (.slice V k c) k (f s), bx w.heap.size 26 [.int .i64 n, .slice A p cap]]) (fun _ i _ => p - (intOf i).toNat)
  case atStart => exact ⟨0, 0, _, _, rfl, Nat.zero_le _, Nat.le_refl _, rfl, by rw [hz]; simpa using HS.out⟩
  case round =>
    obtain ⟨s, k, V, c, rfl, hs, hks, rfl, hS⟩ := hrel
    obtain ⟨b0, -⟩ := hS.box (i := 1) rfl
    have d00 := b0 0 _ rfl
    have d01 := b0 1 _ rfl
    clear b0 HS hz
    have HR := Lib.hid hS
    clear hS
    by_cases hlt : s < p
    · have hsi : (s : Int) < (p : Int) := by omega
      have hs0 : (0 : Int) ≤ (s : Int) := by omega
      obtain ⟨b, off, rfl, hbl, hc⟩ := h.out.at_ (k := s) (by rw [HP.out]; exact hlt)
      have HH := Lib.hid (fun (W : World) (hb : Below w.heap.size w W) => (h.out.below hb).mono hb.size)
      have hst := HST.out s
      have hq := fun W h1 => HWS.out W s h1 (by omega)
      generalize xs.getD s 0 = x at hc hst
      generalize weigh ws s m = y at hq hst
      have HC := Lib.hid hc
      have HQ := Lib.hid hq
      clear hc hq
      go_wp2_with fail
      refine (HB.out _ (HH.out _ HR.out.base) ((g.out.below HR.out.base).mono HR.out.size)).mono ?_
      rintro e w2 ⟨rfl, hb⟩
      have hS2 := HR.out.below hb
      obtain ⟨b0, -⟩ := hS2.box (i := 1) rfl
      have f00 := b0 0 _ rfl
      have f01 := b0 1 _ rfl
      have HS2 := Lib.hid hS2
      have hcc := (HS2.out.base.cell (p := ⟨b, off + s, none⟩) hbl).trans HC.out
      clear hS2 hb b0 d00 d01 HR
      have HQ2 := Lib.hid (fun k => HQ.out (w2.drewN k) ((g.out.below HS2.out.base).mono HS2.out.size))
      by_cases hyx : y = x
      · rw [if_pos hyx] at hst
        have hbe : (y == x) = true := by rw [hyx]; exact beq_self_eq_true _
        have HT := Lib.hid hst
        clear hst
        go_wp2
        go_quiet ((go_at_call 55; exact quiet_gives (HQ2.out _)))
        have HY := Lib.hid (HS2.out.drewN nq)
        generalize w2.drewN nq = w9 at HY ⊢
        go_wp2_with (at_builtin; have hS := HY.out; refine wpList_app1 rfl (.tmp 30) (.tmp 32) 24 rfl (s : Int) Tryd.underlying24 hi hz0 hz1 hz2 ((hS.alloc _ _).drop 0) (i := 0) rfl rfl rfl (by simp) (by omega) ?_; intro V' c' w3 hS3; have HR3 := Lib.hid hS3; clear hS hS3)
        go_roundw
        case rel => exact ⟨s + 1, k + 1, V', c', by go_num, by omega, by omega, rfl, by rw [HT.out]; exact HR3.out⟩
        case measure => simp [intOf]; omega
      · rw [if_neg hyx] at hst
        have hbe : (y == x) = false := beq_eq_false_iff_ne.2 hyx
        have HT := Lib.hid hst
        clear hst
        go_wp2
        go_quiet ((go_at_call 55; exact quiet_gives (HQ2.out _)))
        go_wp2
        go_roundw
        case rel => exact ⟨s + 1, k, V, c, by go_num, by omega, by omega, rfl, by rw [HT.out]; exact HS2.out.drewN _⟩
        case measure => simp [intOf]; omega
    · obtain rfl : s = p := by omega
      have hsi : ¬ (s : Int) < (s : Int) := by omega
      go_wp2_with fail
      refine (HB.out _ ((h.out.below HR.out.base).mono HR.out.size) ((g.out.below HR.out.base).mono HR.out.size)).mono ?_
      rintro e w2 ⟨rfl, hb⟩
      have hS2 := HR.out.below hb
      obtain ⟨b0, -⟩ := hS2.box (i := 1) rfl
      have f00 := b0 0 _ rfl
      have f01 := b0 1 _ rfl
      have HS2 := Lib.hid hS2
      clear hS2 hb b0 d00 d01 HR
      go_wp2_with fail
      refine (HB.out _ ((h.out.below HS2.out.base).mono HS2.out.size) ((g.out.below HS2.out.base).mono HS2.out.size)).mono ?_
      rintro e w3 ⟨rfl, hb⟩
      have HS3 := Lib.hid (HS2.out.below hb)
      clear hb f00 f01 HS2
      go_wp2
      go_ret2
      have hln : (f s).length = k := OwnN.len (HS3.out.own (i := 0) rfl)
      exact ⟨V, c, by rw [hln]; rfl, by rw [hln]; exact HS3.out.ownI (i := 0) rfl, HS3.out.base⟩

theorem tightS_any : Calls Tryd.prog 11 #[.agg #[.int .i64 n, .slice A xs.length cap], .slice D ws.length dap] w (RetIB w (tightSets n xs ws).1 (tightSets n xs ws).2) := by
  unfold tightSets
  cases q : isBelow n xs ws
  · exact tightS_no n A xs cap D ws dap w h g hl q
  · exact tightS_yes n A xs cap D ws dap w h g hl q

end


end Go.Proofs.YtffbiflgmlabaaaDoor.C
