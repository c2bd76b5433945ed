/-
  The contracts of impl.IsBase, TightSets, CapacityOf, ExchangeCapacity.
-/
import Derived.Test.YtpefnfkodcidkaaDoorSkJ
namespace Go.Proofs.YtpefnfkodcidkaaDoor.C
open Go.RowKit K M
set_option linter.unusedVariables false
set_option linter.unusedSimpArgs false
set_option linter.unusedSectionVars false


section

variable (n : Int) (A : Option Addr) (xs : List Int) (cap : Nat) (D : Option Addr) (ws : List Int) (dap : Nat) (w : World) (h : Hid (Ints w w.heap.size A xs)) (g : Hid (Ints w w.heap.size D ws)) (hl : ws.length ≤ 1048576) (hbr : Hid (Brujn w))
include h g hl hbr

set_option maxRecDepth 100000 in
theorem baseI_no (q : isBelow n xs ws = false) : Calls Tryd.prog 16 #[.agg #[.int .i64 n, .slice A xs.length cap], .slice D ws.length dap] w (RetV w (.bool false)) := by
  have HW := Lib.hid (St.start w)
  have HB := Lib.hid (fun W h1 h2 h3 => belowI_any n A xs cap D ws dap W (Lib.hid h1) (Lib.hid h2) hl (Lib.hid h3))
  rw [q] at HB
  clear q
  go_enter Tryd.func16, Tryd.ntmps16
  go_wp2_with (go_at_call 12; refine St.use (w0 := w) (by exact HW.out.alloc _ _) ?_; intro hS; refine (HB.out _ ((h.out.below hS.base).mono hS.size) ((g.out.below hS.base).mono hS.size) (brujn_on hbr.out hS.base)).mono ?_; rintro e w1 ⟨rfl, hb⟩; have HS := Lib.hid (hS.below hb); clear hS hb)
  go_ret
  exact ⟨rfl, HS.out.base⟩

set_option maxRecDepth 100000 in
set_option maxHeartbeats 1600000 in
theorem baseI_yes (q : isBelow n xs ws = true) : Calls Tryd.prog 16 #[.agg #[.int .i64 n, .slice A xs.length cap], .slice D ws.length dap] w (RetV w (.bool (decide (weigh ws (xs.length - 1) ws.length = xs.getD (xs.length - 1) 0)))) := by
  have HW := Lib.hid (St.start w)
  have HB := Lib.hid (fun W h1 h2 h3 => belowI_any n A xs cap D ws dap W (Lib.hid h1) (Lib.hid h2) hl (Lib.hid h3))
  rw [q] at HB
  obtain ⟨q1, q2, q3, -⟩ := isBelow_yes q
  obtain ⟨h0, h5, hlx, hvv⟩ := ground_parts q1
  obtain ⟨h6, hv⟩ := isVec5_yes q3
  obtain ⟨N, rfl⟩ := Int.eq_ofNat_of_zero_le h0
  rw [Int.toNat_natCast] at hlx
  have hwN : ws.length = N := by omega
  have hp0 := Nat.two_pow_pos N
  have hk : (0 ^^^ (2 ^ N - 1) : Nat) = xs.length - 1 := by rw [hlx]; simp
  have HK := Lib.hid (fun W => compl_any 0 N W (by omega) (by omega))
  rw [hk] at HK
  have HC := Lib.hid (fun W h1 h2 => weigh5I_any D ws dap (xs.length - 1) W (Lib.hid h1) hv h6 (by rw [hwN, hlx]; omega) (Lib.hid h2))
  obtain ⟨b, off, rfl, hbl, hco⟩ := h.out.at_ (show xs.length - 1 < xs.length by rw [hlx]; omega)
  have hki : ((xs.length - 1 : Nat) : Int) < (xs.length : Int) := by rw [hlx]; omega
  generalize xs.length - 1 = k at *
  generalize weigh ws k ws.length = y at HC ⊢
  generalize xs.getD k 0 = x at hco ⊢
  obtain ⟨p, hp⟩ : ∃ p, xs.length = p := ⟨_, rfl⟩
  obtain ⟨m, hm⟩ : ∃ m, ws.length = m := ⟨_, rfl⟩
  rw [hp] at hki HB ⊢
  rw [hm] at HC HB ⊢
  have hk0 : (0 : Int) ≤ (k : Int) := by omega
  clear hk hlx hwN hp0 q q1 q2 q3 h0 h5 h6 hv hvv hp hm hl
  have HX := Lib.hid hco
  have key : decide (y = x) = (x == y) := by
    by_cases e : x = y
    · subst e; simp
    · rw [decide_eq_false fun e2 => e e2.symm, beq_eq_false_iff_ne.2 e]
  rw [key]
  clear hco key
  go_enter Tryd.func16, Tryd.ntmps16
  go_wp2_with (first
    | (go_at_call 12; refine St.use (w0 := w) (by exact HW.out.alloc _ _) ?_; intro hS; refine (HB.out _ ((h.out.below hS.base).mono hS.size) ((g.out.below hS.base).mono hS.size) (brujn_on hbr.out hS.base)).mono ?_; rintro e w1 ⟨rfl, hb⟩; have hS1 := hS.below hb; obtain ⟨b0, -⟩ := hS1.box (i := 0) rfl; have b00 := b0 0 _ rfl; have b01 := b0 1 _ rfl; have HS := Lib.hid hS1; clear hS hb hS1 b0)
    | (go_at_call 34; refine (HK.out _).mono ?_; rintro e w' ⟨rfl, rfl⟩))
  have hc1 := (HS.out.base.cell (p := ⟨b, off + k, none⟩) hbl).trans HX.out
  have hcl := (HS.out.lt (i := 0) rfl).2
  have hbl2 : b < w1.heap.size := Nat.lt_of_lt_of_le hbl HS.out.size
  go_region_held3 (fun w' => w'.cell? ⟨w.heap.size, 1, none⟩ = some (.slice (some ⟨b, off, none⟩) p cap) ∧ w'.cell? ⟨b, off + k, none⟩ = some (.int .i64 x)) (first | (refine ⟨?_, ?_⟩ <;> assumption) | assumption | go_keep)
    ((go_at_call 35; refine (HC.out _ ?_ ?_).mono ?_; (first | exact (g.out.below HS.out.base).mono HS.out.size | exact (g.out.below HS.out.drew.base).mono HS.out.drew.size); (first | exact brujn_on hbr.out HS.out.base | exact brujn_on hbr.out HS.out.drew.base); rintro e w2 ⟨rfl, hb2⟩; have HB2 := Lib.hid (HS.out.drew.below hb2); have hw1' := (hb2.cell (p := ⟨w.heap.size, 1, none⟩) hcl).trans b01; have hc' := (hb2.cell (p := ⟨b, off + k, none⟩) hbl2).trans hc1; clear hb2))
  go_wp2
  go_ret
  exact ⟨rfl, HB2.out.base⟩

theorem baseI_any : Calls Tryd.prog 16 #[.agg #[.int .i64 n, .slice A xs.length cap], .slice D ws.length dap] w (RetV w (.bool (isBase n xs ws))) := by
  unfold isBase
  cases q : isBelow n xs ws
  · exact baseI_no n A xs cap D ws dap w h g hl hbr q
  · rw [Bool.true_and]
    exact baseI_yes n A xs cap D ws dap w h g hl hbr q

set_option maxRecDepth 100000 in
theorem tightI_no (q : isBelow n xs ws = false) : Calls Tryd.prog 18 #[.agg #[.int .i64 n, .slice A xs.length cap], .slice D ws.length dap] w (RetIB w [] false) := by
  have HW := Lib.hid (St.start w)
  have HB := Lib.hid (fun W h1 h2 h3 => belowI_any n A xs cap D ws dap W (Lib.hid h1) (Lib.hid h2) hl (Lib.hid h3))
  rw [q] at HB
  clear q
  go_enter Tryd.func18, Tryd.ntmps18
  go_wp2_with (go_at_call 12; refine St.use (w0 := w) (by exact HW.out.alloc _ _) ?_; intro hS; refine (HB.out _ ((h.out.below hS.base).mono hS.size) ((g.out.below hS.base).mono hS.size) (brujn_on hbr.out hS.base)).mono ?_; rintro e w1 ⟨rfl, hb⟩; have HS := Lib.hid (hS.below hb); clear hS hb)
  exact bodyPost_ret (v := .tuple #[.slice none 0 0, .bool false]) (by simp [results, Tryd.results18, go_sem]) rfl ⟨none, 0, rfl, K.Own.nil _ _, HS.out.base⟩

set_option maxRecDepth 100000 in
set_option maxHeartbeats 1600000 in
theorem capI_no (e : Int) (q : isBelow n xs ws = false ∨ (isBelow n xs ws = true ∧ (e < 0 ∨ n ≤ e))) : Calls Tryd.prog 23 #[.agg #[.int .i64 n, .slice A xs.length cap], .slice D ws.length dap, .int .i64 e] w (RetV w (.tuple #[.int .i64 0, .bool false])) := by
  have HW := Lib.hid (St.start w)
  have HB := Lib.hid (fun W h1 h2 h3 => belowI_any n A xs cap D ws dap W (Lib.hid h1) (Lib.hid h2) hl (Lib.hid h3))
  rcases q with q | ⟨q, q2⟩
  · rw [q] at HB
    clear q
    go_enter Tryd.func23, Tryd.ntmps23
    go_wp2_with (go_at_call 12; refine St.use (w0 := w) (by exact HW.out.alloc _ _) ?_; intro hS; refine (HB.out _ ((h.out.below hS.base).mono hS.size) ((g.out.below hS.base).mono hS.size) (brujn_on hbr.out hS.base)).mono ?_; rintro e w1 ⟨rfl, hb⟩; have HS := Lib.hid (hS.below hb); clear hS hb)
    exact bodyPost_ret (v := .tuple #[.int .i64 0, .bool false]) (by simp [results, Tryd.results23, go_sem]) rfl ⟨rfl, HS.out.base⟩
  · rw [q] at HB
    have HI := Lib.hid (fun W => isIndex_no e n W q2)
    clear q q2
    go_enter Tryd.func23, Tryd.ntmps23
    go_wp2_with (first | (go_at_call 12; refine St.use (w0 := w) (by exact HW.out.alloc _ _) ?_; intro hS; refine (HB.out _ ((h.out.below hS.base).mono hS.size) ((g.out.below hS.base).mono hS.size) (brujn_on hbr.out hS.base)).mono ?_; rintro e w1 ⟨rfl, hb⟩; have hS1 := hS.below hb; obtain ⟨b0, -⟩ := hS1.box (i := 0) rfl; have b00 := b0 0 _ rfl; have HS := Lib.hid hS1; clear hS hb hS1 b0) | (go_at_call 38; refine (HI.out _).mono ?_; rintro e w' ⟨rfl, rfl⟩))
    exact bodyPost_ret (v := .tuple #[.int .i64 0, .bool false]) (by simp [results, Tryd.results23, go_sem]) rfl ⟨rfl, HS.out.base⟩

set_option maxRecDepth 100000 in
set_option maxHeartbeats 1600000 in
theorem capI_yes (e : Int) (q : isBelow n xs ws = true) (e0 : 0 ≤ e) (e1 : e < n) : Calls Tryd.prog 23 #[.agg #[.int .i64 n, .slice A xs.length cap], .slice D ws.length dap, .int .i64 e] w (RetV w (.tuple #[.int .i64 (capTo xs ws (fun s => s.testBit e.toNat) xs.length), .bool true])) := by
  have HW := Lib.hid (St.start w)
  have HB := Lib.hid (fun W h1 h2 h3 => belowI_any n A xs cap D ws dap W (Lib.hid h1) (Lib.hid h2) hl (Lib.hid h3))
  rw [q] at HB
  obtain ⟨q1, q2, q3, -⟩ := isBelow_yes q
  obtain ⟨h0, h5, hlx, hvv⟩ := ground_parts q1
  obtain ⟨E, rfl⟩ := Int.eq_ofNat_of_zero_le e0
  have HI := Lib.hid (fun W => isIndex_yes (E : Int) n W e0 e1)
  have hN : n.toNat < 6 := by omega
  have hE : E < n.toNat := by omega
  have hfl := freeOne_lt n.toNat hN E hE
  have h32 : 2 ^ n.toNat ≤ 32 := Nat.le_trans (Nat.pow_le_pow_right (by decide) (show n.toNat ≤ 5 by omega)) (by decide)
  have hE32 : 0 ||| 2 ^ E < 32 := by
    rw [Nat.zero_or]
    exact Nat.lt_of_lt_of_le (Nat.pow_lt_pow_right (by decide) hE) h32
  have HWI := Lib.hid (fun W => with_any 0 (E : Int) W (by decide) (by decide) e0 (by omega))
  rw [show withE 0 (E : Int) = 0 ||| 2 ^ E from rfl] at HWI
  have HL := Lib.hid (fun W h1 h2 h3 => leastSlackI_any n A xs cap D ws dap W (Lib.hid h1) (Lib.hid h2) (Lib.hid h3) q1 q2 q3 (0 ||| 2 ^ E) 0 (freeOne n.toNat E) hE32 (by decide) rfl (by omega) (fun x hx => (one_in (by omega) hE x hx).1))
  rw [Int.toNat_natCast, cap_least (c := 0 ||| 2 ^ E) (F := freeOne n.toNat E) hlx (one_in (by omega) hE) (one_out n.toNat hN E hE) (fun s hs => by have := slack_bd hvv q3 s (by rw [hlx]; exact hs); omega)]
  generalize slackV xs ws (0 ||| 2 ^ E) (leastTo (slackV xs ws (0 ||| 2 ^ E)) (freeOne n.toNat E) (freeOne n.toNat E)) = y at HL ⊢
  generalize 0 ||| 2 ^ E = c at *
  clear hfl h32 q q1 q2 q3 hl hlx h0 h5 hvv hN hE e0 e1 hE32
  go_enter Tryd.func23, Tryd.ntmps23
  go_wp2_with (first | (go_at_call 12; refine St.use (w0 := w) (by exact HW.out.alloc _ _) ?_; intro hS; refine (HB.out _ ((h.out.below hS.base).mono hS.size) ((g.out.below hS.base).mono hS.size) (brujn_on hbr.out hS.base)).mono ?_; rintro e w1 ⟨rfl, hb⟩; have hS1 := hS.below hb; obtain ⟨b0, -⟩ := hS1.box (i := 0) rfl; have b00 := b0 0 _ rfl; have b01 := b0 1 _ rfl; have HS := Lib.hid hS1; clear hS hb hS1 b0) | (go_at_call 38; refine (HI.out _).mono ?_; rintro e w' ⟨rfl, rfl⟩))
  go_region_held3 (fun w' => w'.cell? ⟨w.heap.size, 0, none⟩ = some (.int .i64 n) ∧ w'.cell? ⟨w.heap.size, 1, none⟩ = some (.slice A xs.length cap)) (first | (refine ⟨?_, ?_⟩ <;> assumption) | assumption | go_keep)
    (first
      | (go_at_call 39; refine (HWI.out _).mono ?_; rintro e w' ⟨rfl, rfl⟩)
      | (go_at_call 32; have HSD := Lib.hid (HS.out.drew); refine (HL.out _ ?_ ?_ ?_).mono ?_; (first | exact (h.out.below HSD.out.base).mono HSD.out.size | exact (h.out.below HS.out.base).mono HS.out.size); (first | exact (g.out.below HSD.out.base).mono HSD.out.size | exact (g.out.below HS.out.base).mono HS.out.size); (first | exact brujn_on hbr.out HSD.out.base | exact brujn_on hbr.out HS.out.base); rintro e w3 ⟨rfl, hb⟩; have hS3 := HSD.out.below hb; obtain ⟨b0, -⟩ := hS3.box (i := 0) rfl; have c00 := b0 0 _ rfl; have c01 := b0 1 _ rfl; have HS3 := Lib.hid hS3; clear hb b0 hS3))
  go_wp2
  exact bodyPost_ret (v := .tuple #[.int .i64 y, .bool true]) (by simp [results, Tryd.results23, go_sem]) rfl ⟨rfl, HS3.out.base⟩
theorem capI_any (e : Int) : Calls Tryd.prog 23 #[.agg #[.int .i64 n, .slice A xs.length cap], .slice D ws.length dap, .int .i64 e] w (RetV w (.tuple #[.int .i64 (capOf n xs ws e).1, .bool (capOf n xs ws e).2])) := by
  unfold capOf
  cases q : isBelow n xs ws
  · rw [if_neg (by simp)]
    exact capI_no n A xs cap D ws dap w h g hl hbr e (.inl q)
  · by_cases he : 0 ≤ e ∧ e < n
    · rw [if_pos ⟨rfl, he⟩]
      exact capI_yes n A xs cap D ws dap w h g hl hbr e q he.1 he.2
    · rw [if_neg fun hh => he hh.2]
      exact capI_no n A xs cap D ws dap w h g hl hbr e (.inr ⟨q, by omega⟩)

set_option maxRecDepth 100000 in
set_option maxHeartbeats 1600000 in
theorem exchI_no (e d : Int) (q : isBelow n xs ws = false ∨ (isBelow n xs ws = true ∧ (e < 0 ∨ n ≤ e)) ∨ (isBelow n xs ws = true ∧ (0 ≤ e ∧ e < n) ∧ (d < 0 ∨ n ≤ d)) ∨ (isBelow n xs ws = true ∧ (0 ≤ e ∧ e < n) ∧ e = d)) : Calls Tryd.prog 25 #[.agg #[.int .i64 n, .slice A xs.length cap], .slice D ws.length dap, .int .i64 e, .int .i64 d] w (RetV w (.tuple #[.int .i64 0, .bool false])) := by
  have HW := Lib.hid (St.start w)
  have HB := Lib.hid (fun W h1 h2 h3 => belowI_any n A xs cap D ws dap W (Lib.hid h1) (Lib.hid h2) hl (Lib.hid h3))
  rcases q with q | ⟨q, q2⟩ | ⟨q, q2, q3⟩ | ⟨q, q2, rfl⟩
  · rw [q] at HB
    clear q
    go_enter Tryd.func25, Tryd.ntmps25
    go_wp2_with (go_at_call 12; refine St.use (w0 := w) (by exact HW.out.alloc _ _) ?_; intro hS; refine (HB.out _ ((h.out.below hS.base).mono hS.size) ((g.out.below hS.base).mono hS.size) (brujn_on hbr.out hS.base)).mono ?_; rintro e' w1 ⟨rfl, hb⟩; have HS := Lib.hid (hS.below hb); clear hS hb)
    exact bodyPost_ret (v := .tuple #[.int .i64 0, .bool false]) (by simp [results, Tryd.results25, go_sem]) rfl ⟨rfl, HS.out.base⟩
  · rw [q] at HB
    have HI := Lib.hid (fun W => isIndex_no e n W q2)
    clear q q2
    go_enter Tryd.func25, Tryd.ntmps25
    go_wp2_with (first
      | (go_at_call 12; refine St.use (w0 := w) (by exact HW.out.alloc _ _) ?_; intro hS; refine (HB.out _ ((h.out.below hS.base).mono hS.size) ((g.out.below hS.base).mono hS.size) (brujn_on hbr.out hS.base)).mono ?_; rintro e' w1 ⟨rfl, hb⟩; have hS1 := hS.below hb; obtain ⟨b0, -⟩ := hS1.box (i := 0) rfl; have b00 := b0 0 _ rfl; have HS := Lib.hid hS1; clear hS hb hS1 b0)
      | (go_at_call 38; refine (HI.out _).mono ?_; rintro e' w' ⟨rfl, rfl⟩))
    exact bodyPost_ret (v := .tuple #[.int .i64 0, .bool false]) (by simp [results, Tryd.results25, go_sem]) rfl ⟨rfl, HS.out.base⟩
  · rw [q] at HB
    have HI := Lib.hid (fun W => isIndex_yes e n W q2.1 q2.2)
    have HJ := Lib.hid (fun W => isIndex_no d n W q3)
    clear q q2 q3
    go_enter Tryd.func25, Tryd.ntmps25
    go_wp2_with (first
      | (go_at_call 12; refine St.use (w0 := w) (by exact HW.out.alloc _ _) ?_; intro hS; refine (HB.out _ ((h.out.below hS.base).mono hS.size) ((g.out.below hS.base).mono hS.size) (brujn_on hbr.out hS.base)).mono ?_; rintro e' w1 ⟨rfl, hb⟩; have hS1 := hS.below hb; obtain ⟨b0, -⟩ := hS1.box (i := 0) rfl; have b00 := b0 0 _ rfl; have HS := Lib.hid hS1; clear hS hb hS1 b0)
      | (go_at_call_of 38 (Value.int .i64 e); refine (HI.out _).mono ?_; rintro e' w' ⟨rfl, rfl⟩)
      | (go_at_call_of 38 (Value.int .i64 d); refine (HJ.out _).mono ?_; rintro e' w' ⟨rfl, rfl⟩))
    exact bodyPost_ret (v := .tuple #[.int .i64 0, .bool false]) (by simp [results, Tryd.results25, go_sem]) rfl ⟨rfl, HS.out.base⟩
  · rw [q] at HB
    have HI := Lib.hid (fun W => isIndex_yes e n W q2.1 q2.2)
    have hee : (e == e) = true := beq_self_eq_true _
    clear q q2
    go_enter Tryd.func25, Tryd.ntmps25
    go_wp2_with (first
      | (go_at_call 12; refine St.use (w0 := w) (by exact HW.out.alloc _ _) ?_; intro hS; refine (HB.out _ ((h.out.below hS.base).mono hS.size) ((g.out.below hS.base).mono hS.size) (brujn_on hbr.out hS.base)).mono ?_; rintro e' w1 ⟨rfl, hb⟩; have hS1 := hS.below hb; obtain ⟨b0, -⟩ := hS1.box (i := 0) rfl; have b00 := b0 0 _ rfl; have HS := Lib.hid hS1; clear hS hb hS1 b0)
      | (go_at_call 38; refine (HI.out _).mono ?_; rintro e' w' ⟨rfl, rfl⟩))
    exact bodyPost_ret (v := .tuple #[.int .i64 0, .bool false]) (by simp [results, Tryd.results25, go_sem]) rfl ⟨rfl, HS.out.base⟩

set_option maxRecDepth 100000 in
set_option maxHeartbeats 1600000 in
theorem exchI_yes (e d : Int) (q : isBelow n xs ws = true) (e0 : 0 ≤ e) (e1 : e < n) (d0 : 0 ≤ d) (d1 : d < n) (hed : e ≠ d) : Calls Tryd.prog 25 #[.agg #[.int .i64 n, .slice A xs.length cap], .slice D ws.length dap, .int .i64 e, .int .i64 d] w (RetV w (.tuple #[.int .i64 (capTo xs ws (fun s => s.testBit e.toNat && !s.testBit d.toNat) xs.length), .bool true])) := by
  have HW := Lib.hid (St.start w)
  have HB := Lib.hid (fun W h1 h2 h3 => belowI_any n A xs cap D ws dap W (Lib.hid h1) (Lib.hid h2) hl (Lib.hid h3))
  rw [q] at HB
  obtain ⟨q1, q2, q3, -⟩ := isBelow_yes q
  obtain ⟨h0, h5, hlx, hvv⟩ := ground_parts q1
  obtain ⟨E, rfl⟩ := Int.eq_ofNat_of_zero_le e0
  obtain ⟨Z, rfl⟩ := Int.eq_ofNat_of_zero_le d0
  have HI := Lib.hid (fun W => isIndex_yes (E : Int) n W e0 e1)
  have HJ := Lib.hid (fun W => isIndex_yes (Z : Int) n W d0 d1)
  have hN : n.toNat < 6 := by omega
  have hE : E < n.toNat := by omega
  have hZ : Z < n.toNat := by omega
  have hEZ : E ≠ Z := fun e => hed (by rw [e])
  have hee : ((E : Int) == (Z : Int)) = false := beq_eq_false_iff_ne.2 hed
  have hfl := freeTwo_lt n.toNat hN E hE Z hZ
  have h32 : 2 ^ n.toNat ≤ 32 := Nat.le_trans (Nat.pow_le_pow_right (by decide) (show n.toNat ≤ 5 by omega)) (by decide)
  have hE32 : 0 ||| 2 ^ E < 32 := by
    rw [Nat.zero_or]
    exact Nat.lt_of_lt_of_le (Nat.pow_lt_pow_right (by decide) hE) h32
  have hZ32 : 0 ||| 2 ^ Z < 32 := by
    rw [Nat.zero_or]
    exact Nat.lt_of_lt_of_le (Nat.pow_lt_pow_right (by decide) hZ) h32
  have HWI := Lib.hid (fun W => with_any 0 (E : Int) W (by decide) (by decide) e0 (by omega))
  rw [show withE 0 (E : Int) = 0 ||| 2 ^ E from rfl] at HWI
  have HWZ := Lib.hid (fun W => with_any 0 (Z : Int) W (by decide) (by decide) d0 (by omega))
  rw [show withE 0 (Z : Int) = 0 ||| 2 ^ Z from rfl] at HWZ
  have HL := Lib.hid (fun W h1 h2 h3 => leastSlackI_any n A xs cap D ws dap W (Lib.hid h1) (Lib.hid h2) (Lib.hid h3) q1 q2 q3 (0 ||| 2 ^ E) (0 ||| 2 ^ Z) (freeTwo n.toNat E Z) hE32 hZ32 rfl (by omega) (fun x hx => (two_in (by omega) hE hZ hEZ x hx).1))
  rw [Int.toNat_natCast, Int.toNat_natCast, cap_least (c := 0 ||| 2 ^ E) (F := freeTwo n.toNat E Z) hlx (two_in (by omega) hE hZ hEZ) (two_out n.toNat hN E hE Z hZ) (fun s hs => by have := slack_bd hvv q3 s (by rw [hlx]; exact hs); omega)]
  generalize slackV xs ws (0 ||| 2 ^ E) (leastTo (slackV xs ws (0 ||| 2 ^ E)) (freeTwo n.toNat E Z) (freeTwo n.toNat E Z)) = y at HL ⊢
  generalize 0 ||| 2 ^ E = c at *
  generalize 0 ||| 2 ^ Z = z at *
  clear hfl h32 q q1 q2 q3 hl hlx h0 h5 hvv hN hE hZ e0 e1 d0 d1 hE32 hZ32 hEZ hed
  go_enter Tryd.func25, Tryd.ntmps25
  go_wp2_with (first
    | (go_at_call 12; refine St.use (w0 := w) (by exact HW.out.alloc _ _) ?_; intro hS; refine (HB.out _ ((h.out.below hS.base).mono hS.size) ((g.out.below hS.base).mono hS.size) (brujn_on hbr.out hS.base)).mono ?_; rintro e' w1 ⟨rfl, hb⟩; have hS1 := hS.below hb; obtain ⟨b0, -⟩ := hS1.box (i := 0) rfl; have b00 := b0 0 _ rfl; have b01 := b0 1 _ rfl; have HS := Lib.hid hS1; clear hS hb hS1 b0)
    | (go_at_call_of 38 (Value.int .i64 (E : Int)); refine (HI.out _).mono ?_; rintro e' w' ⟨rfl, rfl⟩)
    | (go_at_call_of 38 (Value.int .i64 (Z : Int)); refine (HJ.out _).mono ?_; rintro e' w' ⟨rfl, rfl⟩))
  go_region_held3 (fun w' => w'.cell? ⟨w.heap.size, 0, none⟩ = some (.int .i64 n) ∧ w'.cell? ⟨w.heap.size, 1, none⟩ = some (.slice A xs.length cap)) (first | (refine ⟨?_, ?_⟩ <;> assumption) | assumption | go_keep)
    (first
      | (go_at_call_of 39 (Value.int .i64 (E : Int)); refine (HWI.out _).mono ?_; rintro e w' ⟨rfl, rfl⟩)
      | (go_at_call_of 39 (Value.int .i64 (Z : Int)); refine (HWZ.out _).mono ?_; rintro e w' ⟨rfl, rfl⟩)
      | (go_at_call 32; have HSD := Lib.hid (HS.out.drew); refine (HL.out _ ?_ ?_ ?_).mono ?_; (first | exact (h.out.below HSD.out.base).mono HSD.out.size | exact (h.out.below HS.out.base).mono HS.out.size); (first | exact (g.out.below HSD.out.base).mono HSD.out.size | exact (g.out.below HS.out.base).mono HS.out.size); (first | exact brujn_on hbr.out HSD.out.base | exact brujn_on hbr.out HS.out.base); rintro e w3 ⟨rfl, hb⟩; have hS3 := HSD.out.below hb; obtain ⟨b0, -⟩ := hS3.box (i := 0) rfl; have c00 := b0 0 _ rfl; have c01 := b0 1 _ rfl; have HS3 := Lib.hid hS3; clear hb b0 hS3))
  go_wp2
  exact bodyPost_ret (v := .tuple #[.int .i64 y, .bool true]) (by simp [results, Tryd.results25, go_sem]) rfl ⟨rfl, HS3.out.base⟩

theorem exchI_any (e d : Int) : Calls Tryd.prog 25 #[.agg #[.int .i64 n, .slice A xs.length cap], .slice D ws.length dap, .int .i64 e, .int .i64 d] w (RetV w (.tuple #[.int .i64 (exchOf n xs ws e d).1, .bool (exchOf n xs ws e d).2])) := by
  unfold exchOf
  cases q : isBelow n xs ws
  · rw [if_neg (by simp)]
    exact exchI_no n A xs cap D ws dap w h g hl hbr e d (.inl q)
  · by_cases he : 0 ≤ e ∧ e < n
    · by_cases hd : 0 ≤ d ∧ d < n
      · by_cases hed : e = d
        · rw [if_neg fun hh => hh.2.2.2 hed]
          exact exchI_no n A xs cap D ws dap w h g hl hbr e d (.inr (.inr (.inr ⟨q, he, hed⟩)))
        · rw [if_pos ⟨rfl, he, hd, hed⟩]
          exact exchI_yes n A xs cap D ws dap w h g hl hbr e d q he.1 he.2 hd.1 hd.2 hed
      · rw [if_neg fun hh => hd hh.2.2.1]
        exact exchI_no n A xs cap D ws dap w h g hl hbr e d (.inr (.inr (.inl ⟨q, he, by omega⟩)))
    · rw [if_neg fun hh => he hh.2.1]
      exact exchI_no n A xs cap D ws dap w h g hl hbr e d (.inr (.inl ⟨q, by omega⟩))

set_option maxRecDepth 100000 in
set_option maxHeartbeats 4000000 in
theorem tightI_yes (q : isBelow n xs ws = true) : Calls Tryd.prog 18 #[.agg #[.int .i64 n, .slice A xs.length cap], .slice D ws.length dap] w (RetIB w (tightTo xs ws xs.length) true) := by
  have HW := Lib.hid (St.start w)
  have HB := Lib.hid (fun W h1 h2 h3 => belowI_any n A xs cap D ws dap W (Lib.hid h1) (Lib.hid h2) hl (Lib.hid h3))
  rw [q] at HB
  obtain ⟨q1, q2, q3, -⟩ := isBelow_yes q
  obtain ⟨h0, h5, hlx, hvv⟩ := ground_parts q1
  obtain ⟨h6, hv⟩ := isVec5_yes q3
  have hwN : ws.length = n.toNat := by omega
  have hx32 := (isFn_len (ground_fn q1)).2
  have HS := Lib.hid (fun (W : World) (x : Nat) (h1 : Ints W W.heap.size A xs) (h2 : Ints W W.heap.size D ws) (h3 : Brujn W) (hx : x < xs.length) => show Calls Tryd.prog 36 #[.agg #[.int .i64 n, .slice A xs.length cap, .slice D ws.length dap, .int .i64 0], .int .i64 x] W (RetV W (.int .i64 (xs.getD x 0 - weigh ws x ws.length))) from slackC n A xs cap D ws dap 0 x x W (Lib.hid h1) (Lib.hid h2) (Lib.hid h3) h6 hv (by decide) (by omega) (Nat.zero_or x) hx (by rw [hwN, ← hlx]; exact hx) (hvv x hx).1 (hvv x hx).2)
  have HST := Lib.hid (fun s => (by rfl : tightTo xs ws (s + 1) = if weigh ws s ws.length = xs.getD s 0 then tightTo xs ws s ++ [(s : Int)] else tightTo xs ws s))
  have HLE := Lib.hid (fun s => tightTo_len xs ws s)
  have hz : tightTo xs ws 0 = [] := rfl
  generalize tightTo xs ws = f at *
  obtain ⟨p, hp⟩ : ∃ p, xs.length = p := ⟨_, rfl⟩
  obtain ⟨m, hm⟩ : ∃ m, ws.length = m := ⟨_, rfl⟩
  rw [hp] at hx32 HB HS ⊢
  rw [hm] at HB HS HST ⊢
  clear q q1 q2 q3 hv hvv hlx hwN hp hm hl h0 h5 h6
  obtain ⟨i0, hi, hz0, hz1, hz2⟩ := info_parts info_int
  go_enter Tryd.func18, Tryd.ntmps18
  go_wp2_with (go_at_call 12; refine St.use (w0 := w) (by exact HW.out.alloc _ _) ?_; intro hS; refine (HB.out _ ((h.out.below hS.base).mono hS.size) ((g.out.below hS.base).mono hS.size) (brujn_on hbr.out hS.base)).mono ?_; rintro e w1 ⟨rfl, hb⟩; have hS1 := hS.below hb; obtain ⟨b0, -⟩ := hS1.box (i := 0) rfl; have b00 := b0 0 _ rfl; have b01 := b0 1 _ rfl; have HR := Lib.hid hS1; have hltb := (hS1.lt (i := 0) rfl).2; clear hS hb hS1 b0)
  have HS1 := Lib.hid ((HR.out.alloc [.int .i64 n, .slice A p cap, .slice D m dap, .int .i64 0] 51).nil)
  generalize w1.alloc (.cells #[.int .i64 n, .slice A p cap, .slice D m dap, .int .i64 0] 51) = w2 at *
  generalize w1.heap.size = B at *
  clear HR b00 b01
  go_loopw [6, 19] (fun v i wr => ∃ (s k : Nat) (V : Option Addr) (c : Nat), i = .int .i64 s ∧ s ≤ p ∧ k ≤ s ∧ v = .slice V k c ∧ St w wr [il (.slice V k c) k (f s), bx B 51 [.int .i64 n, .slice A p cap, .slice D m dap, .int .i64 0], bx w.heap.size 27 [.int .i64 n, .slice A p cap]]) (fun _ i _ => p - (intOf i).toNat)
  case atStart => exact ⟨0, 0, _, _, rfl, Nat.zero_le _, Nat.le_refl _, rfl, by rw [hz]; exact HS1.out⟩
  case round =>
    obtain ⟨s, k, V, c, rfl, hs, hks, rfl, hS⟩ := hrel
    obtain ⟨b0, -⟩ := hS.box (i := 1) rfl
    have d00 := b0 0 _ rfl
    have d01 := b0 1 _ rfl
    have d02 := b0 2 _ rfl
    have d03 := b0 3 _ rfl
    clear b0 HS1 hz
    have HR := Lib.hid hS
    clear hS
    by_cases hlt : s < p
    · have hsi : (s : Int) < (p : Int) := by omega
      have HQ := Lib.hid (fun W h1 h2 h3 => HS.out W s h1 h2 h3 hlt)
      have hst := HST.out s
      generalize xs.getD s 0 = x at hst HQ
      generalize weigh ws s m = y at hst HQ
      by_cases hyx : y = x
      · rw [if_pos hyx] at hst
        have hbe : (x - y == 0) = true := by rw [hyx, Int.sub_self]; rfl
        have HT := Lib.hid hst
        clear hst
        go_wp2_with (first
          | (go_at_call 36; refine (HQ.out _ ((h.out.below HR.out.base).mono HR.out.size) ((g.out.below HR.out.base).mono HR.out.size) (brujn_on hbr.out HR.out.base)).mono ?_; rintro e w3 ⟨rfl, hb⟩; have HY := Lib.hid (HR.out.below hb); clear hb d00 d01 d02 d03)
          | (at_builtin; have hS := HY.out; refine wpList_app1 rfl (.tmp 26) (.tmp 28) 22 rfl (s : Int) Tryd.underlying22 hi hz0 hz1 hz2 ((hS.alloc _ _).drop 0) (i := 0) rfl rfl rfl (by simp) (by omega) ?_; intro V' c' w4 hS3; have HR3 := Lib.hid hS3; clear hS hS3))
        go_roundw
        case rel => exact ⟨s + 1, k + 1, V', c', by go_num, by omega, by omega, rfl, by rw [HT.out]; exact HR3.out⟩
        case measure => simp [intOf]; omega
      · rw [if_neg hyx] at hst
        have hbe : (x - y == 0) = false := beq_eq_false_iff_ne.2 (by omega)
        have HT := Lib.hid hst
        clear hst
        go_wp2_with (go_at_call 36; refine (HQ.out _ ((h.out.below HR.out.base).mono HR.out.size) ((g.out.below HR.out.base).mono HR.out.size) (brujn_on hbr.out HR.out.base)).mono ?_; rintro e w3 ⟨rfl, hb⟩; have HY := Lib.hid (HR.out.below hb); clear hb d00 d01 d02 d03)
        go_roundw
        case rel => exact ⟨s + 1, k, V, c, by go_num, by omega, by omega, rfl, by rw [HT.out]; exact HY.out⟩
        case measure => simp [intOf]; omega
    · obtain rfl : s = p := by omega
      have hsi : ¬ (s : Int) < (s : Int) := by omega
      go_wp2
      have hln : (f s).length = k := OwnN.len (HR.out.own (i := 0) rfl)
      exact bodyPost_ret (v := .tuple #[.slice V k c, .bool true]) (by simp [results, Tryd.results18, go_sem]) rfl ⟨V, c, by rw [hln], by rw [hln]; exact HR.out.ownI (i := 0) rfl, HR.out.base⟩

theorem tightI_any : Calls Tryd.prog 18 #[.agg #[.int .i64 n, .slice A xs.length cap], .slice D ws.length dap] w (RetIB w (tightSets n xs ws).1 (tightSets n xs ws).2) := by
  unfold tightSets
  cases q : isBelow n xs ws
  · exact tightI_no n A xs cap D ws dap w h g hl hbr q
  · exact tightI_yes n A xs cap D ws dap w h g hl hbr q


end


end Go.Proofs.YtpefnfkodcidkaaDoor.C
