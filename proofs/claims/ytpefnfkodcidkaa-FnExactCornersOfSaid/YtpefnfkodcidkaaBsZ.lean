/-
  The contract of spec.CornersOf.
-/
import Derived.Test.YtpefnfkodcidkaaBsX
import Derived.Test.YtpefnfkodcidkaaBsY
import Derived.Test.YtpefnfkodcidkaaLists
namespace Go.Proofs.Ytpefnfkodcidkaa.M
set_option linter.unusedVariables false

/-- Whether x is none of the first k lists. -/
def freshTo (acc : List (List Int)) (x : List Int) : Nat → Bool
  | 0 => true
  | k + 1 => freshTo acc x k && !decide (acc.getD k [] = x)
def addNew (acc : List (List Int)) (x : List Int) : List (List Int) := if freshTo acc x acc.length = true then acc ++ [x] else acc
def cornersTo (xs : List Int) (n : Nat) (ps : List (List Int)) : Nat → List (List Int)
  | 0 => []
  | i + 1 => addNew (cornersTo xs n ps i) (cornerTo xs n (ps.getD i []) (ps.getD i []).length)
def cornersOf (n : Int) (xs : List Int) : List (List Int) × Bool := if isGround n xs = true ∧ n ≤ 4 then (cornersTo xs n.toNat (ordersTo n.toNat n.toNat []) (ordersTo n.toNat n.toNat []).length, true) else ([], false)
theorem cornersTo_len (xs : List Int) (n : Nat) (ps : List (List Int)) : ∀ m, (cornersTo xs n ps m).length ≤ m
  | 0 => Nat.le_refl _
  | m + 1 => by
    have := cornersTo_len xs n ps m
    unfold cornersTo addNew
    split
    · rw [List.length_append]; simp; omega
    · omega
theorem cornersTo_all (xs : List Int) (n : Nat) (ps : List (List Int)) : ∀ m, ∀ y ∈ cornersTo xs n ps m, y.length = n
  | 0, y, h => by simp [cornersTo] at h
  | m + 1, y, h => by
    have ih := cornersTo_all xs n ps m y
    unfold cornersTo addNew at h
    split at h
    · rcases List.mem_append.1 h with h | h
      · exact ih h
      · obtain rfl := List.mem_singleton.1 h
        exact cornerTo_len _ _ _ _
    · exact ih h
theorem orders_ok : ∀ n, n < 5 → ∀ p ∈ ordersTo n n [], permTo (n : Int) p p.length = true ∧ p.length = n := by decide +kernel

end Go.Proofs.Ytpefnfkodcidkaa.M
namespace Go.Proofs.Ytpefnfkodcidkaa.K
open Go.RowKit
set_option linter.unusedVariables false
theorem perm_in (a b : Cel) (l t : List Cel) : (a :: b :: (l ++ t)).Perm (b :: ((l ++ [a]) ++ t)) := by
  refine (List.Perm.swap b a _).trans (List.Perm.cons _ ?_)
  rw [List.append_assoc]
  exact (List.perm_middle (a := a) (l₁ := l) (l₂ := t)).symm
theorem St.intsOf {w0 w : World} {L : List Cel} (h : St w0 w L) {e : Ent} (hm : ir e ∈ L) : Ints w w.heap.size e.1 e.2.2 := (OwnN.own (h.2.1 _ hm)).read

end Go.Proofs.Ytpefnfkodcidkaa.K
namespace Go.Proofs.Ytpefnfkodcidkaa.C
open Go.RowKit K M
set_option linter.unusedVariables false
set_option linter.unusedSimpArgs false

theorem same_any (A C : Option Addr) (xs ys : List Int) (cap dap : Nat) (w : World) (h : Hid (Ints w w.heap.size A xs)) (g : Hid (Ints w w.heap.size C ys)) (hn : xs.length ≤ 9223372036854775807) :
    Calls Try.prog 28 #[.slice A xs.length cap, .slice C ys.length dap] w fun e w' => e = .returned (.bool (decide (xs = ys))) ∧ ∃ n, w.drewN n = w' := by
  by_cases e : xs = ys
  · subst e
    rw [decide_eq_true rfl]
    exact same_yes A C xs cap dap w h g hn
  · rw [decide_eq_false e]
    exact same_no A C xs ys cap dap w h g hn e

/-- A new list of lists and a bool. -/
def RetLLB (w : World) (xss : List (List Int)) (b : Bool) (e : Ending) (w' : World) : Prop := ∃ (g c : Nat) (es : List Ent), e = .returned (.tuple #[.slice (some ⟨g, 0, none⟩) es.length c, .bool b]) ∧ es.map (fun e => e.2.2) = xss ∧ St w w' (lol (.slice (some ⟨g, 0, none⟩) es.length c) es)


section

variable (n : Int) (A : Option Addr) (xs : List Int) (cap : Nat) (w : World) (h : Hid (Ints w w.heap.size A xs))
include h
set_option maxRecDepth 100000 in
set_option maxHeartbeats 3200000 in
theorem cornersS_no (q : isGround n xs = false ∨ (isGround n xs = true ∧ 4 < n)) : Calls Try.prog 15 #[.agg #[.int .i64 n, .slice A xs.length cap]] w (RetLLB w [] false) := by
  have HW := Lib.hid (St.start w)
  have HG := Lib.hid (fun W h1 => groundS_any n A xs cap W (Lib.hid h1))
  rcases q with q | ⟨q, q2⟩
  · rw [q] at HG
    clear q
    go_enter Try.func15, Try.ntmps15
    go_wp2_with fail
    refine St.use (w0 := w) (by exact (HW.out.alloc _ _).emptyL) ?_
    intro hS
    simp only [World.size_alloc] at hS
    refine (HG.out _ ((h.out.below hS.base).mono hS.size)).mono ?_
    rintro e w1 ⟨rfl, hb⟩
    have HS := Lib.hid (hS.below hb)
    clear hS hb
    go_wp2
    go_ret2
    exact ⟨_, _, [], rfl, rfl, HS.out.sublist (List.sublist_append_left _ _)⟩
  · rw [q] at HG
    clear q
    go_enter Try.func15, Try.ntmps15
    go_wp2_with fail
    refine St.use (w0 := w) (by exact (HW.out.alloc _ _).emptyL) ?_
    intro hS
    simp only [World.size_alloc] at hS
    refine (HG.out _ ((h.out.below hS.base).mono hS.size)).mono ?_
    rintro e w1 ⟨rfl, hb⟩
    have hS1 := hS.below hb
    have b00 := hS1.cell (g := w.heap.size) (t := 28) (cs := [.int .i64 n, .slice A xs.length cap]) (by simp [lol]) 0 _ rfl
    have HS := Lib.hid hS1
    clear hS hb hS1
    go_wp2
    go_ret2
    exact ⟨_, _, [], rfl, rfl, HS.out.sublist (List.sublist_append_left _ _)⟩

set_option maxRecDepth 100000 in
set_option maxHeartbeats 8000000 in
theorem cornersS_yes (N : Nat) (hN : n = (N : Int)) (q : isGround n xs = true) (h4 : N ≤ 4) : Calls Try.prog 15 #[.agg #[.int .i64 n, .slice A xs.length cap]] w (RetLLB w (cornersTo xs N (ordersTo N N []) (ordersTo N N []).length) true) := by
  subst hN
  have HW := Lib.hid (St.start w)
  have HG := Lib.hid (fun W h1 => groundS_any (N : Int) A xs cap W (Lib.hid h1))
  rw [q] at HG
  have hok := orders_ok N (by omega)
  have HC := Lib.hid (fun (p : List Int) (hp : p ∈ ordersTo N N []) W D d h1 h2 => l8cornerS_any N A xs cap D p d W (Lib.hid h1) (Lib.hid h2) (by have := (hok p hp).2; omega) (ground_fn q) (hok p hp).1)
  have HO := Lib.hid (fun pb c W L hh => orders_any N (by omega) N [] (by simp) pb c w W L hh)
  have HCL := Lib.hid (fun p => cornerTo_len xs N p p.length)
  have HST := Lib.hid (fun i => (by rfl : cornersTo xs N (ordersTo N N []) (i + 1) = addNew (cornersTo xs N (ordersTo N N []) i) (cornerTo xs N ((ordersTo N N []).getD i []) ((ordersTo N N []).getD i []).length)))
  have HLE := Lib.hid (cornersTo_len xs N (ordersTo N N []))
  have HAL := Lib.hid (cornersTo_all xs N (ordersTo N N []))
  have hz : cornersTo xs N (ordersTo N N []) 0 = [] := rfl
  have h256 : (ordersTo N N []).length ≤ 256 := Nat.le_trans (orders_len N N []) (Nat.le_trans (Nat.pow_le_pow_left h4 N) (Nat.pow_le_pow_right (by decide) h4))
  generalize cornersTo xs N (ordersTo N N []) = f at *
  generalize ordersTo N N [] = ps at *
  clear q hok
  have hN4 : ¬ (4 : Int) < (N : Int) := by omega
  obtain ⟨j0, hj, hy0, hy1, hy2⟩ := info_parts info_ints
  go_enter Try.func15, Try.ntmps15
  go_wp2_with fail
  refine St.use (w0 := w) (by exact (HW.out.alloc _ _).emptyL) ?_
  intro hS
  simp only [World.size_alloc] at hS
  refine (HG.out _ ((h.out.below hS.base).mono hS.size)).mono ?_
  rintro e w1 ⟨rfl, hb⟩
  have hS1 := hS.below hb
  have b00 := hS1.cell (g := w.heap.size) (t := 28) (cs := [.int .i64 N, .slice A xs.length cap]) (by simp [lol]) 0 _ rfl
  have bl := hS1.ltOf (g := w.heap.size) (t := 28) (cs := [.int .i64 N, .slice A xs.length cap]) (by simp [lol])
  have HS := Lib.hid hS1
  clear hS hb hS1
  go_wp2_with fail
  refine (HO.out _ _ _ _ (Lib.hid HS.out.empty)).mono ?_
  rintro e w2 ⟨g, c, es, rfl, hes, hS⟩
  have HS2 := Lib.hid (hS.perm (List.perm_append_comm_assoc _ _ _))
  have HES := Lib.hid hes
  have hesl : es.length = ps.length := by rw [← hes, List.length_map]
  have HEM := Lib.hid (fun i (hi : i < es.length) => show ∃ Ae ce pe, es[i]? = some (Ae, ce, pe) ∧ ps.getD i [] = pe ∧ pe ∈ ps from
    ⟨es[i].1, es[i].2.1, es[i].2.2, by simp [hi], by rw [← hes]; simp [hi], by rw [← hes]; exact List.mem_map_of_mem (f := fun e : Ent => e.2.2) (List.getElem_mem hi)⟩)
  clear hS hes HS HO b00 bl
  obtain ⟨q, hq⟩ : ∃ q, es.length = q := ⟨_, rfl⟩
  have HQ := Lib.hid hq
  have HPL := Lib.hid (show q = ps.length by rw [← hesl, hq])
  rw [← hesl] at h256
  rw [hq] at h256 HEM ⊢
  clear hesl
  go_wp2
  go_loopw [4, 6] (fun v i wr => ∃ (k go co : Nat) (os : List Ent), i = .int .i64 k ∧ k ≤ q ∧ v = .slice (some ⟨go, 0, none⟩) os.length co ∧ os.map (fun e => e.2.2) = f k ∧ St w wr (lol (.slice (some ⟨go, 0, none⟩) os.length co) os ++ (lol (.slice (some ⟨g, 0, none⟩) es.length c) es ++ [bx w.heap.size 28 [.int .i64 N, .slice A xs.length cap]]))) (fun _ i _ => q - (intOf i).toNat)
  case atStart => exact ⟨0, _, _, [], rfl, Nat.zero_le _, rfl, by rw [hz]; rfl, HS2.out⟩
  case round =>
    obtain ⟨k, go, co, os, rfl, hk, rfl, hos, hS⟩ := hrel
    clear HS2 hz
    have HR := Lib.hid hS
    have HOS := Lib.hid hos
    clear hS hos
    by_cases hlt : k < q
    · have hki : (k : Int) < (q : Int) := by omega
      have hk0 : (0 : Int) ≤ (k : Int) := by omega
      obtain ⟨Ae, ce, pe, he, hpe, hmem⟩ := HEM.out k hlt
      have HE := Lib.hid he
      have hst := HST.out k
      rw [hpe] at hst
      have HCI := Lib.hid (fun W D d h1 h2 => HC.out pe hmem W D d h1 h2)
      have hxl := HCL.out pe
      generalize cornerTo xs N pe pe.length = x at HCI hst hxl
      have HF := Lib.hid hst
      have d00 := HR.out.cell (g := w.heap.size) (t := 28) (cs := [.int .i64 N, .slice A xs.length cap]) (by simp [lol]) 0 _ rfl
      have d01 := HR.out.cell (g := w.heap.size) (t := 28) (cs := [.int .i64 N, .slice A xs.length cap]) (by simp [lol]) 1 _ rfl
      have d02 : wr.cell? ⟨g, k, none⟩ = some (.slice Ae pe.length ce) := (HR.out.rest_of (L1 := lol _ os)).cellL (i := 0) rfl he
      clear hst he hpe hmem
      go_wp2
      go_region_held3 (fun w' => w'.cell? ⟨w.heap.size, 0, none⟩ = some (.int .i64 N) ∧ w'.cell? ⟨w.heap.size, 1, none⟩ = some (.slice A xs.length cap) ∧ w'.cell? ⟨g, k, none⟩ = some (.slice Ae pe.length ce)) (first | (refine ⟨?_, ?_, ?_⟩ <;> assumption) | assumption | go_keep) ((go_at_call 23; refine (HCI.out _ _ _ ?_ ?_).mono ?_; (first | exact (h.out.below HR.out.base).mono HR.out.size | exact (h.out.below HR.out.drew.base).mono HR.out.drew.size); (first | exact HR.out.intsOf (e := (Ae, ce, pe)) (by simp only [lol]; exact List.mem_append_right _ (List.mem_append_left _ (List.mem_cons_of_mem _ (List.mem_map_of_mem (List.mem_of_getElem? HE.out))))) | exact HR.out.drew.intsOf (e := (Ae, ce, pe)) (by simp only [lol]; exact List.mem_append_right _ (List.mem_append_left _ (List.mem_cons_of_mem _ (List.mem_map_of_mem (List.mem_of_getElem? HE.out)))))); rintro e w5 ⟨V, cv, rfl, ho, hb⟩; have hS5 := HR.out.drew.newI hb ho; rw [hxl] at hS5; have d00' := hS5.cell (g := w.heap.size) (t := 28) (cs := [.int .i64 N, .slice A xs.length cap]) (by simp [lol]) 0 _ rfl; have d01' := hS5.cell (g := w.heap.size) (t := 28) (cs := [.int .i64 N, .slice A xs.length cap]) (by simp [lol]) 1 _ rfl; have d02' : w5.cell? ⟨g, k, none⟩ = some (.slice Ae pe.length ce) := ((hS5.drop 0).rest_of (L1 := lol _ os)).cellL (i := 0) rfl HE.out; have HS5 := Lib.hid hS5; clear hS5 hb ho d00 d01 d02))
      have hosl : (f k).length = os.length := by rw [← HOS.out, List.length_map]
      have hosk : os.length ≤ 1048576 := by have := HLE.out k; omega
      have HSM := Lib.hid (fun W Ao ao (yo : List Int) h1 h2 hl => same_any Ao V yo x ao cv W (Lib.hid h1) (Lib.hid h2) hl)
      rw [hxl] at HSM
      go_wp2
      go_loopw [8, 9] (fun u i wr2 => ∃ t : Nat, i = .int .i64 t ∧ t ≤ os.length ∧ u = .bool (freshTo (f k) x t) ∧ St w wr2 (il (.slice V N cv) N x :: (lol (.slice (some ⟨go, 0, none⟩) os.length co) os ++ (lol (.slice (some ⟨g, 0, none⟩) es.length c) es ++ [bx w.heap.size 28 [.int .i64 N, .slice A xs.length cap]])))) (fun _ i _ => os.length - (intOf i).toNat)
      case atStart => exact ⟨0, rfl, Nat.zero_le _, rfl, HS5.out⟩
      case round =>
        obtain ⟨t, rfl, ht, rfl, hS⟩ := hrel
        clear HS5
        have HT := Lib.hid hS
        clear hS
        by_cases htl : t < os.length
        · obtain ⟨Ao, ao, yo, ho, hyo⟩ : ∃ Ao ao yo, os[t]? = some (Ao, ao, yo) ∧ (f k).getD t [] = yo := ⟨os[t].1, os[t].2.1, os[t].2.2, by simp [htl], by rw [← HOS.out]; simp [htl]⟩
          have hfr : freshTo (f k) x (t + 1) = (freshTo (f k) x t && !decide ((f k).getD t [] = x)) := rfl
          rw [hyo] at hfr
          have htc : wr.cell? ⟨go, t, none⟩ = some (.slice Ao yo.length ao) := HT.out.cellL (i := 1) rfl ho
          have hmo : ir (Ao, ao, yo) ∈ il (.slice V N cv) N x :: (lol (.slice (some ⟨go, 0, none⟩) os.length co) os ++ (lol (.slice (some ⟨g, 0, none⟩) es.length c) es ++ [bx w.heap.size 28 [.int .i64 N, .slice A xs.length cap]])) := List.mem_cons_of_mem _ (List.mem_append_left _ (List.mem_cons_of_mem _ (List.mem_map_of_mem (List.mem_of_getElem? ho))))
          have hyl := HT.out.intsOf hmo
          have hyn : yo.length ≤ 9223372036854775807 := by
            have h1 : yo ∈ f k := by rw [← HOS.out]; exact List.mem_map_of_mem (f := fun e : Ent => e.2.2) (List.mem_of_getElem? ho)
            have := HAL.out k yo h1
            omega
          have HYL := Lib.hid hyl
          have ht0 : (0 : Int) ≤ (t : Int) := by omega
          have hti : (t : Int) < (os.length : Int) := by omega
          cases hfb : freshTo (f k) x t
          · rw [hfb, Bool.false_and] at hfr
            have HV := Lib.hid hfr
            clear hfr ho hyo hmo hyl
            go_wp2
            go_roundw
            case rel => exact ⟨t + 1, by go_num, by omega, by rw [HV.out], HT.out⟩
            case measure => simp [intOf]; omega
          · rw [hfb, Bool.true_and] at hfr
            have HV := Lib.hid hfr
            clear hfr ho hyo hmo hyl
            go_wp2_with (go_at_call 28; refine (HSM.out _ _ _ _ HYL.out (HT.out.ints (i := 0) rfl) hyn).mono ?_; rintro e w7 ⟨rfl, qq, rfl⟩)
            go_roundw
            case rel => exact ⟨t + 1, by go_num, by omega, by rw [HV.out], HT.out.drewN _⟩
            case measure => simp [intOf]; omega
        · obtain rfl : t = os.length := by omega
          have hti : ¬ (os.length : Int) < (os.length : Int) := by omega
          have hst := HF.out
          unfold addNew at hst
          rw [hosl] at hst
          cases hfb : freshTo (f k) x os.length
          · rw [if_neg (by rw [hfb]; decide)] at hst
            have HV := Lib.hid hst
            clear hst
            go_wp2
            go_roundw
            case rel => exact ⟨k + 1, go, co, os, by go_num, by omega, rfl, by rw [HOS.out, HV.out], HT.out.drop 0⟩
            case measure => simp [intOf]; omega
          · rw [if_pos hfb] at hst
            have HV := Lib.hid hst
            clear hst
            go_wp2_with (at_builtin; refine wpList_appL rfl (.tmp 53) (.tmp 55) 36 rfl [(V, cv, x)] Try.underlying36 hj hy0 hy1 hy2 ((HT.out.alloc _ _).drop 0) (i := 1) rfl rfl rfl rfl rfl (fun j e he => by rcases j with _ | j <;> simp at he; subst he; simp [sv, hxl]) (by omega) (by omega) ?_; intro g8 c8 w8 hS8; have HS8 := Lib.hid hS8; clear hS8)
            go_roundw
            case rel =>
              refine ⟨k + 1, g8, c8, os ++ [(V, cv, x)], by go_num, by omega, by rw [List.length_append]; rfl, by rw [List.map_append, HOS.out, HV.out]; rfl, ?_⟩
              have hZ := HS8.out
              have hir : il (.slice V N cv) N x = ir (V, cv, x) := by unfold ir sv; rw [hxl]
              rw [hir] at hZ
              have hP := hZ.perm (perm_in _ _ _ _)
              unfold lol
              rw [List.map_append]
              exact hP
            case measure => simp [intOf]; omega
    · obtain rfl : k = q := by omega
      have hki : ¬ (k : Int) < (k : Int) := by omega
      go_wp2
      go_ret2
      exact ⟨go, co, os, rfl, by rw [HOS.out, HPL.out], HR.out.sublist (List.sublist_append_left _ _)⟩

theorem cornersS_any : Calls Try.prog 15 #[.agg #[.int .i64 n, .slice A xs.length cap]] w (RetLLB w (cornersOf n xs).1 (cornersOf n xs).2) := by
  unfold cornersOf
  cases q : isGround n xs
  · rw [if_neg (by simp)]
    exact cornersS_no n A xs cap w h (.inl q)
  · by_cases h4 : n ≤ 4
    · rw [if_pos ⟨rfl, h4⟩]
      obtain ⟨n0, -, -, -⟩ := isFn_yes (ground_fn q)
      exact cornersS_yes n A xs cap w h n.toNat (by omega) q (by omega)
    · rw [if_neg fun hh => h4 hh.2]
      exact cornersS_no n A xs cap w h (.inr ⟨q, by omega⟩)

end


end Go.Proofs.Ytpefnfkodcidkaa.C
