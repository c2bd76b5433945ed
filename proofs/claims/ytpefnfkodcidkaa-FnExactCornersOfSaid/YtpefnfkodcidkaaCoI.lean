/-
  The contract of impl.CornersOf.
-/
import Derived.Test.YtpefnfkodcidkaaOrI
import Derived.Test.YtpefnfkodcidkaaHlI
import Derived.Test.YtpefnfkodcidkaaOdI
namespace Go.Proofs.Ytpefnfkodcidkaa.C
open Go.RowKit K M
set_option linter.unusedVariables false
set_option linter.unusedSimpArgs false
set_option linter.unusedSectionVars false

/-- What an order of all elements says of each of them. -/
theorem order_parts {N : Nat} {p : List Int} (q : permTo (N : Int) p p.length = true) (hl : p.length = N) : ∀ i, i < N → p.getD i 0 = ((p.getD i 0).toNat : Int) ∧ (p.getD i 0).toNat < N := by
  intro i hi
  have := (perm_at _ q i (by omega)).1
  omega


section

variable (n : Int) (A : Option Addr) (xs : List Int) (cap : Nat) (w : World) (h : Hid (Ints w w.heap.size A xs))
include h

set_option maxRecDepth 100000 in
theorem cornersI_no (q : isGround n xs = false ∨ (isGround n xs = true ∧ 4 < n)) : Calls Try.prog 16 #[.agg #[.int .i64 n, .slice A xs.length cap]] w (RetLLO w [] false) := by
  have HW := Lib.hid (St.start w)
  have HG := Lib.hid (fun W h1 => groundI_any n A xs cap W (Lib.hid h1))
  rcases q with q | ⟨q, q2⟩
  · rw [q] at HG
    clear q
    go_enter Try.func16, Try.ntmps16
    go_wp2_with (go_at_call 24; refine St.use (w0 := w) (by exact HW.out.alloc _ _) ?_; intro hS; refine (HG.out _ ((h.out.below hS.base).mono hS.size)).mono ?_; rintro e w1 ⟨rfl, hb⟩; have HS := Lib.hid (hS.below hb); clear hS hb)
    exact bodyPost_ret (v := .tuple #[.slice none 0 0, .bool false]) (by simp [results, Try.results16, go_sem]) rfl ⟨none, 0, [], rfl, rfl, HS.out.nilL.sublist (List.sublist_append_left _ _)⟩
  · rw [q] at HG
    clear q
    go_enter Try.func16, Try.ntmps16
    go_wp2_with (go_at_call 24; refine St.use (w0 := w) (by exact HW.out.alloc _ _) ?_; intro hS; refine (HG.out _ ((h.out.below hS.base).mono hS.size)).mono ?_; rintro e w1 ⟨rfl, hb⟩; have hS1 := hS.below hb; obtain ⟨b0, -⟩ := hS1.box (i := 0) rfl; have b00 := b0 0 _ rfl; have HS := Lib.hid hS1; clear hS hb hS1 b0)
    exact bodyPost_ret (v := .tuple #[.slice none 0 0, .bool false]) (by simp [results, Try.results16, go_sem]) rfl ⟨none, 0, [], rfl, rfl, HS.out.nilL.sublist (List.sublist_append_left _ _)⟩

set_option maxRecDepth 100000 in
set_option maxHeartbeats 8000000 in
theorem cornersI_yes (N : Nat) (hN : n = (N : Int)) (q : isGround n xs = true) (h4 : N ≤ 4) : Calls Try.prog 16 #[.agg #[.int .i64 n, .slice A xs.length cap]] w (RetLLO w (cornersTo xs N (ordersTo N N []) (ordersTo N N []).length) true) := by
  subst hN
  have HW := Lib.hid (St.start w)
  have HG := Lib.hid (fun W h1 => groundI_any (N : Int) A xs cap W (Lib.hid h1))
  rw [q] at HG
  obtain ⟨-, -, hlx, hvv⟩ := isFn_yes (ground_fn q)
  rw [Int.toNat_natCast] at hlx
  have hok := orders_ok N (by omega)
  have HC := Lib.hid (fun (p : List Int) (hp : p ∈ ordersTo N N []) W D d h1 h2 => by
    have hx := gainsI_any (N : Int) A xs cap D p d W (Lib.hid h1) (Lib.hid h2) N (fun i => (p.getD i 0).toNat) (hok p hp).2 (by omega) hlx hvv (fun i hi => (order_parts (hok p hp).1 (hok p hp).2 i hi).1) (fun i hi => (order_parts (hok p hp).1 (hok p hp).2 i hi).2)
    rw [← corner_gain xs N (p := p) (o := fun i => (p.getD i 0).toNat) N fun i hi => (order_parts (hok p hp).1 (hok p hp).2 i hi).1] at hx
    exact (show Calls Try.prog 26 #[.agg #[.int .i64 N, .slice A xs.length cap], .slice D p.length d] W (RetI W (cornerTo xs N p p.length)) from by rw [(hok p hp).2] at hx ⊢; exact hx))
  have HO := Lib.hid (fun W => ordersI_any N h4 W)
  rw [level_orders N (by omega)] at HO
  have HCL := Lib.hid (fun p => cornerTo_len xs N p p.length)
  have HST := Lib.hid (fun i => (by rfl : cornersTo xs N (ordersTo N N []) (i + 1) = addNew (cornersTo xs N (ordersTo N N []) i) (cornerTo xs N ((ordersTo N N []).getD i []) ((ordersTo N N []).getD i []).length)))
  have HLE := Lib.hid (cornersTo_len xs N (ordersTo N N []))
  have HAL := Lib.hid (cornersTo_all xs N (ordersTo N N []))
  have hz : cornersTo xs N (ordersTo N N []) 0 = [] := rfl
  have h256 : (ordersTo N N []).length ≤ 256 := Nat.le_trans (orders_len N N []) (Nat.le_trans (Nat.pow_le_pow_left h4 N) (Nat.pow_le_pow_right (by decide) h4))
  generalize cornersTo xs N (ordersTo N N []) = f at *
  generalize ordersTo N N [] = ps at *
  clear q hok hlx hvv
  have hN4 : ¬ (4 : Int) < (N : Int) := by omega
  obtain ⟨j0, hj, hy0, hy1, hy2⟩ := info_parts info_ints
  go_enter Try.func16, Try.ntmps16
  go_wp2_with (first
    | (go_at_call 24; refine St.use (w0 := w) (by exact HW.out.alloc _ _) ?_; intro hS; refine (HG.out _ ((h.out.below hS.base).mono hS.size)).mono ?_; rintro e w1 ⟨rfl, hb⟩; have hS1 := hS.below hb; obtain ⟨b0, -⟩ := hS1.box (i := 0) rfl; have b00 := b0 0 _ rfl; have HS := Lib.hid hS1; clear hS hb hS1 b0)
    | (go_at_call 29; refine (HO.out _).mono ?_; rintro e w2 ⟨G, c, es, rfl, hes, hS2⟩; have HS2 := Lib.hid (HS.out.join hS2); have HES := Lib.hid hes; clear hS2 hes b00))
  have HEM := Lib.hid (fun i (hi : i < es.length) => show ∃ Ae ce pe, es[i]? = some (Ae, ce, pe) ∧ ps.getD i [] = pe ∧ pe ∈ ps from
    ⟨es[i].1, es[i].2.1, es[i].2.2, by simp [hi], by rw [← HES.out]; simp [hi], by rw [← HES.out]; exact List.mem_map_of_mem (f := fun e : Ent => e.2.2) (List.getElem_mem hi)⟩)
  have hesl : es.length = ps.length := by rw [← HES.out, List.length_map]
  have HPL := Lib.hid hesl
  have hq256 : es.length ≤ 256 := by omega
  clear hesl h256
  go_loopw [4, 20] (fun v i wr => ∃ (k co : Nat) (V : Option Addr) (os : List Ent), i = .int .i64 k ∧ k ≤ es.length ∧ v = .slice V os.length co ∧ Hid (os.map (fun e => e.2.2) = f k) ∧ St w wr (lol (.slice V os.length co) os ++ (lol (.slice G es.length c) es ++ [bx w.heap.size 28 [.int .i64 N, .slice A xs.length cap]]))) (fun _ i _ => es.length - (intOf i).toNat)
  case atStart => exact ⟨0, 0, none, [], rfl, Nat.zero_le _, rfl, Lib.hid (by rw [hz]; rfl), HS2.out.nilL⟩
  case round =>
    obtain ⟨k, co, V, os, rfl, hk, rfl, HOS, hS⟩ := hrel
    clear HS2 hz
    have HR := Lib.hid hS
    clear hS
    by_cases hlt : k < es.length
    · have hki : (k : Int) < (es.length : Int) := by omega
      have hk0 : (0 : Int) ≤ (k : Int) := by omega
      obtain ⟨Ae, ce, pe, he, hpe, hmem⟩ := HEM.out k hlt
      have hst := HST.out k
      rw [hpe] at hst
      have HCI := Lib.hid (fun W D d h1 h2 => HC.out pe hmem W D d h1 h2)
      have hxl := HCL.out pe
      generalize cornerTo xs N pe pe.length = x at HCI hst hxl
      have HF := Lib.hid hst
      have d00 := HR.out.cell (g := w.heap.size) (t := 28) (cs := [.int .i64 N, .slice A xs.length cap]) (by simp [lol]) 0 _ rfl
      have d01 := HR.out.cell (g := w.heap.size) (t := 28) (cs := [.int .i64 N, .slice A xs.length cap]) (by simp [lol]) 1 _ rfl
      obtain ⟨g, rfl⟩ : ∃ g, G = some ⟨g, 0, none⟩ := (HR.out.rest_of (L1 := lol _ os)).ol_at (c := c) (i := 0) rfl hlt
      have d02 : wr.cell? ⟨g, k, none⟩ = some (.slice Ae pe.length ce) := (HR.out.rest_of (L1 := lol _ os)).cellL (i := 0) rfl he
      have HIP := Lib.hid (show Ints wr wr.heap.size Ae pe from HR.out.intsOf (e := (Ae, ce, pe)) (List.mem_append_right _ (List.mem_append_left _ (List.mem_cons_of_mem _ (List.mem_map_of_mem (List.mem_of_getElem? he))))))
      have hosl : (f k).length = os.length := by rw [← HOS.out, List.length_map]
      have hosk : os.length ≤ 1048576 := by have := HLE.out k; omega
      have HHS := Lib.hid (fun (W : World) (A5 : Option Addr) (c5 : Nat) h1 h2 => hasI_any V co os A5 x c5 W (Lib.hid h1) (Lib.hid h2) (fun e he => by
        have h1 : e.2.2 ∈ f k := by rw [← HOS.out]; exact List.mem_map_of_mem (f := fun e : Ent => e.2.2) he
        have := HAL.out k _ h1
        omega) hosk)
      rw [HOS.out] at HHS
      unfold addNew at hst
      rw [hosl] at hst
      clear he hpe hmem HF
      have HXL := Lib.hid hxl
      cases hfb : freshTo (f k) x os.length
      · rw [if_neg (by rw [hfb]; decide)] at hst
        rw [hfb] at HHS
        have HV := Lib.hid hst
        clear hst hfb hosl hxl
        go_wp2_with (first
          | (go_at_call 26; refine (HCI.out _ _ _ ((h.out.below HR.out.base).mono HR.out.size) HIP.out).mono ?_; rintro e w5 ⟨A5, c5, rfl, ho, hb5⟩; have HS5 := Lib.hid (HR.out.newI hb5 ho); clear ho hb5 d00 d01 d02)
          | (go_at_call 30; refine (HHS.out _ A5 c5 (HS5.out.lls (i := 1) rfl (fun e he => List.mem_cons_of_mem _ (List.mem_append_left _ (List.mem_cons_of_mem _ (List.mem_map_of_mem he))))) (HS5.out.ints (i := 0) rfl)).mono ?_; rintro e w6 ⟨rfl, hb6⟩; have HS6 := Lib.hid (HS5.out.below hb6); clear hb6))
        go_roundw
        case rel => exact ⟨k + 1, co, V, os, by go_num, by omega, rfl, Lib.hid (by rw [HOS.out, HV.out]), HS6.out.drop 0⟩
        case measure => simp [intOf]; omega
      · rw [if_pos hfb] at hst
        rw [hfb] at HHS
        have HV := Lib.hid hst
        clear hst hfb hosl hxl
        go_wp2_with (first
          | (go_at_call 26; refine (HCI.out _ _ _ ((h.out.below HR.out.base).mono HR.out.size) HIP.out).mono ?_; rintro e w5 ⟨A5, c5, rfl, ho, hb5⟩; have HS5 := Lib.hid (HR.out.newI hb5 ho); clear ho hb5 d00 d01 d02)
          | (go_at_call 30; refine (HHS.out _ A5 c5 (HS5.out.lls (i := 1) rfl (fun e he => List.mem_cons_of_mem _ (List.mem_append_left _ (List.mem_cons_of_mem _ (List.mem_map_of_mem he))))) (HS5.out.ints (i := 0) rfl)).mono ?_; rintro e w6 ⟨rfl, hb6⟩; have HS6 := Lib.hid (HS5.out.below hb6); clear hb6)
          | (at_builtin; refine wpList_appL1 rfl (.tmp 31) (.tmp 33) 36 rfl (A5, c5, x) Try.underlying36 hj hy0 hy1 hy2 ((HS6.out.alloc _ _).drop 0) (i := 1) rfl rfl rfl rfl (((HS6.out.alloc _ _).box (i := 0) rfl).1 0 _ rfl) hosk ?_; intro g8 c8 w8 hS8; have HS8 := Lib.hid (show St w w8 (lol (.slice (some ⟨g8, 0, none⟩) (os ++ [((A5, c5, x) : Ent)]).length c8) (os ++ [((A5, c5, x) : Ent)]) ++ _) from St.into hS8); clear hS8))
        go_roundw
        case rel => exact ⟨k + 1, c8, some ⟨g8, 0, none⟩, os ++ [(A5, c5, x)], by go_num, by omega, by rw [List.length_append]; rfl, Lib.hid (by rw [List.map_append, HOS.out, HV.out]; rfl), HS8.out⟩
        case measure => simp [intOf]; omega
    · obtain rfl : k = es.length := by omega
      have hki : ¬ (es.length : Int) < (es.length : Int) := by omega
      go_wp2
      exact bodyPost_ret (v := .tuple #[.slice V os.length co, .bool true]) (by simp [results, Try.results16, go_sem]) rfl ⟨V, co, os, rfl, by rw [HOS.out, HPL.out], HR.out.sublist (List.sublist_append_left _ _)⟩

theorem cornersI_any : Calls Try.prog 16 #[.agg #[.int .i64 n, .slice A xs.length cap]] w (RetLLO w (cornersOf n xs).1 (cornersOf n xs).2) := by
  unfold cornersOf
  cases q : isGround n xs
  · rw [if_neg (by simp)]
    exact cornersI_no n A xs cap w h (.inl q)
  · by_cases h4 : n ≤ 4
    · rw [if_pos ⟨rfl, h4⟩]
      obtain ⟨n0, -, -, -⟩ := isFn_yes (ground_fn q)
      obtain ⟨N, rfl⟩ := Int.eq_ofNat_of_zero_le n0
      exact cornersI_yes (N : Int) A xs cap w h N rfl q (by omega)
    · rw [if_neg fun hh => h4 hh.2]
      exact cornersI_no n A xs cap w h (.inr ⟨q, by omega⟩)

theorem cornersS_anyO : Calls Try.prog 15 #[.agg #[.int .i64 n, .slice A xs.length cap]] w (RetLLO w (cornersOf n xs).1 (cornersOf n xs).2) :=
  (cornersS_any n A xs cap w h).mono fun _ _ ⟨g, c, es, h1, h2, h3⟩ => ⟨some ⟨g, 0, none⟩, c, es, h1, h2, h3⟩

end

theorem corners_small (n : Int) (xs : List Int) : (cornersOf n xs).1.length ≤ 1048576 ∧ ∀ y ∈ (cornersOf n xs).1, y.length ≤ 1048576 := by
  unfold cornersOf
  by_cases q : isGround n xs = true ∧ n ≤ 4
  · rw [if_pos q]
    have h1 := cornersTo_len xs n.toNat (ordersTo n.toNat n.toNat []) (ordersTo n.toNat n.toNat []).length
    have h4 : n.toNat ≤ 4 := by omega
    have h2 : (ordersTo n.toNat n.toNat []).length ≤ 256 := Nat.le_trans (orders_len n.toNat n.toNat []) (Nat.le_trans (Nat.pow_le_pow_left h4 n.toNat) (Nat.pow_le_pow_right (by decide) h4))
    refine ⟨by dsimp only; omega, fun y hy => ?_⟩
    have := cornersTo_all xs n.toNat _ _ y hy
    omega
  · rw [if_neg q]
    exact ⟨by decide, fun y hy => by cases hy⟩

end Go.Proofs.Ytpefnfkodcidkaa.C
