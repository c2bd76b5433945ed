/-
  The contract of impl.ordersOf.
-/
import Derived.Test.YtpefnfkodcidkaaSld
import Derived.Test.YtpefnfkodcidkaaBsZ
namespace Go.Proofs.Ytpefnfkodcidkaa.M
set_option linter.unusedVariables false
/-- p with one more of the first m elements; all lists of the first j, each with one more; all lists of k different elements. -/
def extTo (p : List Int) : Nat → List (List Int)
  | 0 => []
  | x + 1 => if usedTo p (x : Int) p.length = true then extTo p x else extTo p x ++ [p ++ [(x : Int)]]
def partTo (n : Nat) (ls : List (List Int)) : Nat → List (List Int)
  | 0 => []
  | j + 1 => partTo n ls j ++ extTo (ls.getD j []) n
def levelTo (n : Nat) : Nat → List (List Int)
  | 0 => [[]]
  | k + 1 => partTo n (levelTo n k) (levelTo n k).length
theorem level_orders : ∀ n, n < 5 → levelTo n n = ordersTo n n [] := by decide +kernel
theorem level_small : ∀ n, n < 5 → ∀ k, k < 5 → (levelTo n k).length ≤ 1000 ∧ ∀ p ∈ levelTo n k, p.length = k := by decide +kernel
theorem ext_len (p : List Int) : ∀ m, (extTo p m).length ≤ m
  | 0 => Nat.le_refl _
  | m + 1 => by
    have := ext_len p m
    unfold extTo
    split
    · omega
    · rw [List.length_append]; simp; omega
theorem part_len (n : Nat) (ls : List (List Int)) : ∀ j, (partTo n ls j).length ≤ j * n
  | 0 => by simp [partTo]
  | j + 1 => by
    have h1 := part_len n ls j
    have h2 := ext_len (ls.getD j []) n
    rw [partTo, List.length_append, Nat.succ_mul]
    omega

end Go.Proofs.Ytpefnfkodcidkaa.M
namespace Go.Proofs.Ytpefnfkodcidkaa.K
open Go.RowKit
set_option linter.unusedVariables false

section

variable {w0 w w' : World} {L L' : List Cel}
/-- A new list goes behind the outer row that holds it. -/
theorem St.into {V : Value} {es : List Ent} {e : Ent} (h : St w0 w (ir e :: ol V (es ++ [e]) :: (es.map ir ++ L))) : St w0 w (lol V (es ++ [e]) ++ L) := by
  have h2 := h.perm (perm_in _ _ _ _)
  unfold lol
  rw [List.map_append]
  exact h2

end


end Go.Proofs.Ytpefnfkodcidkaa.K
namespace Go.Proofs.Ytpefnfkodcidkaa.C
open Go.RowKit K M
set_option linter.unusedVariables false
set_option linter.unusedSimpArgs false

set_option maxRecDepth 100000 in
set_option maxHeartbeats 8000000 in
theorem ordersI_any (N : Nat) (h4 : N ≤ 4) (w : World) :
    Calls Try.prog 29 #[.int .i64 N] w fun e w' => ∃ (G : Option Addr) (c : Nat) (es : List Ent), e = .returned (.slice G es.length c) ∧ es.map (fun e => e.2.2) = levelTo N N ∧ St w w' (lol (.slice G es.length c) es) := by
  have HW := Lib.hid (St.start w)
  have HSM := Lib.hid (fun k (hk : k ≤ N) => level_small N (by omega) k (by omega))
  have HLV := Lib.hid (fun k => show levelTo N (k + 1) = partTo N (levelTo N k) (levelTo N k).length from rfl)
  have HPT := Lib.hid (fun ls j => show partTo N ls (j + 1) = partTo N ls j ++ extTo (ls.getD j []) N from rfl)
  have HPL := Lib.hid (part_len N)
  have HEX := Lib.hid (fun p x => show extTo p (x + 1) = if usedTo p (x : Int) p.length = true then extTo p x else extTo p x ++ [p ++ [(x : Int)]] from rfl)
  have HEL := Lib.hid ext_len
  have hp0 : ∀ ls, partTo N ls 0 = [] := fun _ => rfl
  have he0 : ∀ p, extTo p 0 = [] := fun _ => rfl
  have hl0 : levelTo N 0 = [[]] := rfl
  generalize levelTo N = lv at *
  generalize partTo N = pt at *
  generalize extTo = ex at *
  obtain ⟨i0, hi, hz0, hz1, hz2⟩ := info_parts info_int
  obtain ⟨j0, hj, hy0, hy1, hy2⟩ := info_parts info_ints
  have HS1 := Lib.hid ((show St w w (ir (none, 0, []) :: []) from HW.out.nil).oneL)
  go_enter Try.func29, Try.ntmps29
  go_wp2
  go_loopw [3, 10] (fun v i wr => ∃ (k : Nat) (G : Option Addr) (c n : Nat) (es : List Ent), i = .int .i64 k ∧ k ≤ N ∧ es.length = n ∧ v = .slice G n c ∧ Hid (es.map (fun e => e.2.2) = lv k) ∧ Hid (∀ e ∈ es, Src e.1 e.2.1 e.2.2) ∧ St w wr (lol (.slice G n c) es)) (fun _ i _ => N - (intOf i).toNat)
  case atStart => exact ⟨0, _, _, 1, [(none, 0, [])], rfl, Nat.zero_le _, rfl, rfl, Lib.hid (by rw [hl0]; rfl), Lib.hid (fun e he => by rw [List.mem_singleton.1 he]; exact .inl ⟨rfl, rfl, rfl⟩), HS1.out⟩
  case round =>
    obtain ⟨k, G, c, n, es, rfl, hk, hn, rfl, HES, HSR, hS⟩ := hrel
    have HR := Lib.hid hS
    have HNE := Lib.hid hn
    clear HS1 hS hn hl0
    by_cases hlt : k < N
    · have hki : (k : Int) < (N : Int) := by omega
      have hlk := HSM.out k hk
      have HLK := Lib.hid hlk.2
      have hn1000 : n ≤ 1000 := by rw [← HNE.out]; have h1 := congrArg List.length HES.out; rw [List.length_map] at h1; omega
      have hlvn : (lv k).length = n := by rw [← HES.out, List.length_map, HNE.out]
      have HNX := Lib.hid (show lv (k + 1) = pt (lv k) n by rw [HLV.out k, hlvn])
      clear hlk hlvn
      have HB := Lib.hid HR.out.nilL
      go_wp2
      go_loopw [4, 14] (fun v i wr => ∃ (j : Nat) (F : Option Addr) (d m : Nat) (fs : List Ent), i = .int .i64 j ∧ j ≤ n ∧ fs.length = m ∧ v = .slice F m d ∧ Hid (fs.map (fun e => e.2.2) = pt (lv k) j) ∧ Hid (∀ e ∈ fs, Src e.1 e.2.1 e.2.2) ∧ St w wr (lol (.slice F m d) fs ++ lol (.slice G n c) es)) (fun _ i _ => n - (intOf i).toNat)
      case atStart => exact ⟨0, none, 0, 0, [], rfl, Nat.zero_le _, rfl, rfl, Lib.hid (by rw [hp0]; rfl), Lib.hid (fun e he => by cases he), HB.out⟩
      case round =>
        obtain ⟨j, F, d, m, fs, rfl, hj', hm, rfl, HFS, HFR, hS⟩ := hrel
        have HT := Lib.hid hS
        have HME := Lib.hid hm
        clear HB hS hm
        by_cases hjn : j < n
        · have hji : (j : Int) < (n : Int) := by omega
          have hj0 : (0 : Int) ≤ (j : Int) := by omega
          have hjl : j < es.length := by rw [HNE.out]; exact hjn
          obtain ⟨Ae, ce, pe, he⟩ : ∃ Ae ce pe, es[j]? = some (Ae, ce, pe) := ⟨es[j].1, es[j].2.1, es[j].2.2, by simp [hjl]⟩
          have hem : ((Ae, ce, pe) : Ent) ∈ es := List.mem_of_getElem? he
          have hsrc : Src Ae ce pe := HSR.out _ hem
          have hpe : (lv k).getD j [] = pe := by rw [← HES.out]; simp [he]
          have hpl : pe.length ≤ 4 := by
            have h1 : pe ∈ lv k := by rw [← HES.out]; exact List.mem_map_of_mem (f := fun e : Ent => e.2.2) hem
            have := HLK.out pe h1
            omega
          obtain ⟨g, rfl⟩ : ∃ g, G = some ⟨g, 0, none⟩ := (HT.out.rest_of (L1 := lol _ fs)).ol_at (c := c) (i := 0) (by rw [HNE.out]; rfl) hjl
          have d0 : wr.cell? ⟨g, j, none⟩ = some (.slice Ae pe.length ce) := (HT.out.rest_of (L1 := lol _ fs)).cellL (c := c) (i := 0) (by rw [HNE.out]; rfl) he
          have HNJ := Lib.hid (show pt (lv k) (j + 1) = pt (lv k) j ++ ex pe N by rw [HPT.out, hpe])
          have hjN : j * N ≤ 1000 * 4 := Nat.mul_le_mul (by omega) h4
          have HFL := Lib.hid (show (pt (lv k) j).length ≤ 4000 from Nat.le_trans (HPL.out (lv k) j) hjN)
          have HEM := Lib.hid hem
          have HSC := Lib.hid hsrc
          have HPE := Lib.hid hpl
          clear he hem hsrc hpe hpl hjN hjl
          go_wp2
          clear d0
          go_loopw [4, 19] (fun v i wr => ∃ (x : Nat) (F : Option Addr) (d m : Nat) (fs : List Ent), i = .int .i64 x ∧ x ≤ N ∧ fs.length = m ∧ v = .slice F m d ∧ Hid (fs.map (fun e => e.2.2) = pt (lv k) j ++ ex pe x) ∧ Hid (∀ e ∈ fs, Src e.1 e.2.1 e.2.2) ∧ St w wr (lol (.slice F m d) fs ++ lol (.slice (some ⟨g, 0, none⟩) n c) es)) (fun _ i _ => N - (intOf i).toNat)
          case atStart => exact ⟨0, F, d, m, fs, rfl, Nat.zero_le _, HME.out, rfl, Lib.hid (by rw [he0, List.append_nil]; exact HFS.out), HFR, HT.out⟩
          case round =>
            obtain ⟨x, F, d, m, fs, rfl, hx, hm, rfl, HFS, HFR, hS⟩ := hrel
            have HT := Lib.hid hS
            have HME := Lib.hid hm
            clear hS hm
            by_cases hxn : x < N
            · have hxi : (x : Int) < (N : Int) := by omega
              have hst := HEX.out pe x
              have hmem : ir (Ae, ce, pe) ∈ lol (.slice F m d) fs ++ lol (.slice (some ⟨g, 0, none⟩) n c) es := List.mem_append_right _ (List.mem_cons_of_mem _ (List.mem_map_of_mem HEM.out))
              have HIN := Lib.hid (HT.out.intsOf hmem)
              have HCT := Lib.hid (containsI_any Ae pe ce (x : Int) wr HIN (by have := HPE.out; omega))
              cases hu : usedTo pe (x : Int) pe.length
              · rw [hu] at HCT
                rw [if_neg (by rw [hu]; decide)] at hst
                have HX := Lib.hid hst
                clear hst hu hmem
                have HSb := Lib.hid (show St w ((wr.alloc (.cells #[.int .i64 (x : Int)] 3)).alloc (.cells #[.slice Ae pe.length ce, .slice (some ⟨wr.heap.size, 0, none⟩) 1 1] 22)) (bx (wr.alloc (.cells #[.int .i64 (x : Int)] 3)).heap.size 22 [.slice Ae pe.length ce, .slice (some ⟨wr.heap.size, 0, none⟩) 1 1] :: il (.slice (some ⟨wr.heap.size, 0, none⟩) 1 1) 1 [(x : Int)] :: (lol (.slice F m d) fs ++ lol (.slice (some ⟨g, 0, none⟩) n c) es)) from (HT.out.alloc [.int .i64 (x : Int)] 3).alloc [.slice Ae pe.length ce, .slice (some ⟨wr.heap.size, 0, none⟩) 1 1] 22)
                have HIb := Lib.hid (HSb.out.ints (i := 1) rfl)
                have HIp := Lib.hid (show Ints _ _ Ae pe from HSb.out.intsOf (e := (Ae, ce, pe)) (List.mem_cons_of_mem _ (List.mem_cons_of_mem _ (List.mem_append_right _ (List.mem_cons_of_mem _ (List.mem_map_of_mem HEM.out))))))
                have HBX := Lib.hid (HSb.out.box (i := 0) rfl).1
                have hbl := (HSb.out.lt (i := 0) rfl).2
                have HCC := Lib.hid (concatI_any (wr.alloc (.cells #[.int .i64 (x : Int)] 3)).heap.size 2 Ae ce pe (some ⟨wr.heap.size, 0, none⟩) 1 [(x : Int)] _ (HBX.out 0 _ rfl) (HBX.out 1 _ rfl) hbl HIp HIb HSC.out (by simp) (by have := HPE.out; omega) (by simp))
                simp only [World.size_alloc] at HCC
                have HLN := Lib.hid (show (pe ++ [(x : Int)]).length = pe.length + 1 by simp)
                clear hbl HIb HIp HBX
                have hml : m ≤ 1048576 := by
                  have h1 := congrArg List.length HFS.out
                  rw [List.length_map, List.length_append, HME.out] at h1
                  have h2 := HEL.out pe x
                  have h3 := HFL.out
                  omega
                go_wp2_with (first
                  | (go_at_call 37; refine HCT.out.mono ?_; rintro e w' ⟨rfl, rfl⟩)
                  | (go_at_call 38; refine HCC.out.mono ?_; rintro e w5 ⟨A5, c5, rfl, ho, hb5⟩; have HS5 := Lib.hid (((HSb.out.newI hb5 ho).drop 1).drop 1); clear ho hb5)
                  | (at_builtin; refine wpList_appL1 rfl (.tmp 26) (.tmp 32) 36 rfl (A5, c5, pe ++ [(x : Int)]) Try.underlying36 hj hy0 hy1 hy2 ((HS5.out.alloc _ _).drop 0) (i := 1) (by rw [HME.out]; rfl) rfl rfl HME.out (by show _ = some (Value.slice A5 (pe ++ [(x : Int)]).length c5); rw [HLN.out]; exact ((HS5.out.alloc _ _).box (i := 0) rfl).1 0 _ rfl) hml ?_; intro g8 c8 w8 hS8; have HS8 := Lib.hid (show St w w8 (lol (.slice (some ⟨g8, 0, none⟩) (fs ++ [((A5, c5, pe ++ [(x : Int)]) : Ent)]).length c8) (fs ++ [((A5, c5, pe ++ [(x : Int)]) : Ent)]) ++ lol (.slice (some ⟨g, 0, none⟩) n c) es) from St.into hS8); clear hS8))
                go_roundw
                case rel =>
                  refine ⟨x + 1, some ⟨g8, 0, none⟩, c8, _, fs ++ [(A5, c5, pe ++ [(x : Int)])], by go_num, by omega, rfl, by rw [List.length_append]; rfl, Lib.hid ?_, Lib.hid ?_, HS8.out⟩
                  · rw [List.map_append, HFS.out, HX.out, List.append_assoc]; rfl
                  · intro e he
                    rcases List.mem_append.1 he with he | he
                    · exact HFR.out e he
                    · rw [List.mem_singleton.1 he]
                      exact .inr (by simp)
                case measure => simp [intOf]; omega
              · rw [hu] at HCT
                rw [if_pos hu] at hst
                have HX := Lib.hid hst
                clear hst hu hmem
                go_wp2_with (go_at_call 37; refine HCT.out.mono ?_; rintro e w' ⟨rfl, rfl⟩)
                go_roundw
                case rel => exact ⟨x + 1, F, d, m, fs, by go_num, by omega, HME.out, rfl, Lib.hid (by rw [HX.out]; exact HFS.out), HFR, HT.out⟩
                case measure => simp [intOf]; omega
            · obtain rfl : x = N := by omega
              have hxi : ¬ (x : Int) < (x : Int) := by omega
              go_wp2
              go_roundw
              case rel => exact ⟨j + 1, F, d, m, fs, by go_num, by omega, HME.out, rfl, Lib.hid (by rw [HNJ.out]; exact HFS.out), HFR, HT.out⟩
              case measure => simp [intOf]; omega
        · obtain rfl : j = n := by omega
          have hji : ¬ (j : Int) < (j : Int) := by omega
          go_wp2
          go_roundw
          case rel => exact ⟨k + 1, F, d, m, fs, by go_num, by omega, HME.out, rfl, Lib.hid (by rw [HNX.out]; exact HFS.out), HFR, HT.out.sublist (List.sublist_append_left _ _)⟩
          case measure => simp [intOf]; omega
    · obtain rfl : k = N := by omega
      have hki : ¬ (k : Int) < (k : Int) := by omega
      go_wp2
      go_ret
      exact ⟨G, c, es, by rw [HNE.out]; rfl, HES.out, by rw [HNE.out]; exact HR.out⟩

end Go.Proofs.Ytpefnfkodcidkaa.C
