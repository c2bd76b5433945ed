/-
  The contract of impl.hasList, by the library's slices.ContainsFunc.
-/
import Derived.Test.YtpefnfkodcidkaaBsZ
import Derived.Test.YtpefnfkodcidkaaLolH
import Derived.Deep.QuietTactic
namespace Go.Proofs.Ytpefnfkodcidkaa.M
theorem fresh_no {acc : List (List Int)} {x : List Int} {k : Nat} (hx : acc.getD k [] = x) : ∀ m, k < m → freshTo acc x m = false
  | 0, h => absurd h (by omega)
  | m + 1, h => by
    unfold freshTo
    by_cases e : k = m
    · subst e
      rw [decide_eq_true hx, Bool.not_true, Bool.and_false]
    · rw [fresh_no hx m (by omega), Bool.false_and]

end Go.Proofs.Ytpefnfkodcidkaa.M
namespace Go.Proofs.Ytpefnfkodcidkaa.C
open Go.RowKit K M
set_option linter.unusedVariables false
set_option linter.unusedSimpArgs false

theorem equal_any (A C : Option Addr) (xs ys : List Int) (cap dap : Nat) (w : World) (h : Hid (Ints w w.heap.size A xs)) (g : Hid (Ints w w.heap.size C ys)) (hn : xs.length ≤ 9223372036854775807) :
    Calls Try.prog 41 #[.slice A xs.length cap, .slice C ys.length dap] w fun e w' => e = .returned (.bool (decide (xs = ys))) ∧ ∃ n, w.drewN n = w' := by
  by_cases e : xs = ys
  · subst e
    rw [decide_eq_true rfl]
    exact equal_yes A C xs cap dap w h g hn
  · rw [decide_eq_false e]
    exact equal_no A C xs ys cap dap w h g hn e

theorem hasC (A : Option Addr) (xs : List Int) (cap : Nat) (D : Option Addr) (ys : List Int) (dap B : Nat) (w : World) (h : Hid (Ints w w.heap.size A xs)) (g : Hid (Ints w w.heap.size D ys)) (hn : ys.length ≤ 9223372036854775807) (hB : w.cell? ⟨B, 0, none⟩ = some (.slice A xs.length cap)) :
    Calls Try.prog 40 #[.slice D ys.length dap, .pointer (some ⟨B, 0, none⟩)] w fun e w' => e = .returned (.bool (decide (ys = xs))) ∧ ∃ n, w.drewN n = w' := by
  have HE := Lib.hid (equal_any D A ys xs dap cap w g h hn)
  generalize decide (ys = xs) = b at *
  generalize xs.length = m at *
  generalize ys.length = l at *
  clear h g hn
  go_enter Try.func40, Try.ntmps40
  go_wp2_with (go_at_call 41; refine HE.out.mono ?_; rintro e w' ⟨rfl, q, rfl⟩)
  go_ret
  exact ⟨rfl, q, rfl⟩

set_option maxRecDepth 100000 in
set_option maxHeartbeats 1600000 in
theorem indexFI (G : Option Addr) (c : Nat) (es : List Ent) (A : Option Addr) (xs : List Int) (cap B : Nat) (w : World) (hL : Hid (LLs w G es)) (h : Hid (Ints w w.heap.size A xs)) (hB : w.cell? ⟨B, 0, none⟩ = some (.slice A xs.length cap)) (hs : ∀ e ∈ es, e.2.2.length ≤ 1048576) (hl : es.length ≤ 1048576) :
    Calls Try.prog 44 #[.slice G es.length c, .func (.func 40) #[] #[.pointer (some ⟨B, 0, none⟩)]] w fun e w' => ∃ r : Int, e = .returned (.int .i64 r) ∧ decide (0 ≤ r) = !freshTo (es.map fun e => e.2.2) xs es.length ∧ ∃ q, w.drewN q = w' := by
  have HF := Lib.hid (fun k => show freshTo (es.map fun e => e.2.2) xs (k + 1) = (freshTo (es.map fun e => e.2.2) xs k && !decide ((es.map fun e => e.2.2).getD k [] = xs)) from rfl)
  have HN := Lib.hid (fun k (hk : k < es.length) hx => fresh_no (acc := es.map fun e => e.2.2) (x := xs) (k := k) hx es.length hk)
  have h0 : freshTo (es.map fun e => e.2.2) xs 0 = true := rfl
  have HE := Lib.hid (fun k (hk : k < es.length) => show ∃ e, es[k]? = some e ∧ (es.map fun e => e.2.2).getD k [] = e.2.2 ∧ e.2.2.length ≤ 1048576 from ⟨es[k], by simp, by simp [hk], hs _ (List.getElem_mem hk)⟩)
  have HB := Lib.hid hB
  obtain ⟨m, hm⟩ : ∃ m, es.length = m := ⟨_, rfl⟩
  rw [hm] at hl HN HE ⊢
  generalize freshTo (es.map fun e => e.2.2) xs = f at *
  clear hm hs hB
  go_enter Try.func44, Try.ntmps44
  go_wp2
  go_loopw [8] (fun i wr => ∃ k q : Nat, k ≤ m ∧ i = .int .i64 k ∧ Hid (f k = true) ∧ w.drewN q = wr) (fun i _ => m - (intOf i).toNat)
  case atStart => exact ⟨0, 0, Nat.zero_le _, rfl, Lib.hid h0, rfl⟩
  case round =>
    obtain ⟨k, q, hk, rfl, hf, hq⟩ := hrel
    clear h0
    by_cases hlt : k < m
    · obtain ⟨⟨D, dap, ys⟩, h1, h2, h3⟩ := HE.out k hlt
      obtain ⟨g, rfl, k1', -, i1'⟩ := hL.out.at_ k _ h1
      have k1 : wr.cell? ⟨g, k, none⟩ = some (.slice D ys.length dap) := by rw [← hq]; exact k1'
      have HC := Lib.hid (show Calls Try.prog 40 #[.slice D ys.length dap, .pointer (some ⟨B, 0, none⟩)] wr fun e w' => e = .returned (.bool (decide (ys = xs))) ∧ ∃ n, wr.drewN n = w' from by
        rw [← hq]
        exact hasC A xs cap D ys dap B (w.drewN q) (Lib.hid h.out) (Lib.hid i1') (by have : ys.length ≤ 1048576 := h3; omega) HB.out)
      have hk0 : (0 : Int) ≤ (k : Int) := by omega
      have hkn : (k : Int) < (m : Int) := by omega
      have hu := HF.out k
      have hn := HN.out k hlt
      rw [h2] at hu hn
      have HQ := Lib.hid hq
      clear h1 h2 h3 k1' i1' hq
      dsimp only at hu hn
      generalize ys.length = l at *
      by_cases hyx : ys = xs
      · have HX := Lib.hid (hn hyx)
        rw [decide_eq_true hyx] at HC
        clear hu hn hyx
        go_wp2_with (go_at_call 40; refine HC.out.mono ?_; rintro e w' ⟨rfl, n, rfl⟩)
        go_ret
        exact ⟨(k : Int), rfl, by rw [HX.out]; exact decide_eq_true hk0, q + n, by rw [← HQ.out]; simp [World.drewN, Nat.add_assoc]⟩
      · rw [decide_eq_false hyx] at HC hu
        rw [hf.out] at hu
        have HX := Lib.hid hu
        clear hu hn hyx
        go_wp2_with (go_at_call 40; refine HC.out.mono ?_; rintro e w' ⟨rfl, n, rfl⟩)
        go_roundw
        case rel => exact ⟨k + 1, q + n, by omega, by go_num, Lib.hid (by rw [HX.out]; rfl), by rw [← HQ.out]; simp [World.drewN, Nat.add_assoc]⟩
        case measure => simp [intOf]; omega
    · obtain rfl : k = m := by omega
      have hkn : ¬ (k : Int) < (k : Int) := by omega
      go_wp2
      go_ret
      exact ⟨-1, rfl, by rw [hf.out]; rfl, q, hq⟩

theorem containsFI (G : Option Addr) (c : Nat) (es : List Ent) (A : Option Addr) (xs : List Int) (cap B : Nat) (w : World) (hL : Hid (LLs w G es)) (h : Hid (Ints w w.heap.size A xs)) (hB : w.cell? ⟨B, 0, none⟩ = some (.slice A xs.length cap)) (hs : ∀ e ∈ es, e.2.2.length ≤ 1048576) (hl : es.length ≤ 1048576) :
    Calls Try.prog 39 #[.slice G es.length c, .func (.func 40) #[] #[.pointer (some ⟨B, 0, none⟩)]] w fun e w' => e = .returned (.bool (!freshTo (es.map fun e => e.2.2) xs es.length)) ∧ ∃ q, w.drewN q = w' := by
  have HI := Lib.hid (indexFI G c es A xs cap B w hL h hB hs hl)
  generalize (!freshTo (es.map fun e => e.2.2) xs es.length) = b at *
  generalize es.length = m at *
  clear h hB hs hl hL
  go_enter Try.func39, Try.ntmps39
  go_wp2_with (go_at_call 44; refine HI.out.mono ?_; rintro e w' ⟨r, rfl, hr, q, rfl⟩)
  go_ret
  exact ⟨by rw [← hr]; rfl, q, rfl⟩

theorem hasI_any (G : Option Addr) (c : Nat) (es : List Ent) (A : Option Addr) (xs : List Int) (cap : Nat) (w : World) (hL : Hid (LLs w G es)) (h : Hid (Ints w w.heap.size A xs)) (hs : ∀ e ∈ es, e.2.2.length ≤ 1048576) (hl : es.length ≤ 1048576) :
    Calls Try.prog 30 #[.slice G es.length c, .slice A xs.length cap] w (RetV w (.bool (!freshTo (es.map fun e => e.2.2) xs es.length))) := by
  have HW := Lib.hid (St.start w)
  have HC := Lib.hid (fun W B hL h hB => containsFI G c es A xs cap B W (Lib.hid hL) (Lib.hid h) hB hs hl)
  generalize (!freshTo (es.map fun e => e.2.2) xs es.length) = b at *
  generalize es.length = m at *
  have hmf : ∀ (fn : Fn) (first cap : Array Value) (w : World), (Instr.makeFunc fn first cap).run Try.prog w = .ok (.func fn first cap) w := fun _ _ _ _ => rfl
  clear hs hl
  go_enter Try.func30, Try.ntmps30
  go_wp2_with fail
  refine St.use (w0 := w) (by exact HW.out.alloc _ _) ?_
  intro hS
  refine (HC.out _ _ (hL.out.below hS.base) ((h.out.below hS.base).mono hS.size) ((hS.box (i := 0) rfl).1 0 _ rfl)).mono ?_
  rintro e w1 ⟨rfl, q, rfl⟩
  have HS := Lib.hid (hS.drewN q)
  clear hS
  go_wp2
  go_ret
  exact ⟨rfl, HS.out.base⟩

end Go.Proofs.Ytpefnfkodcidkaa.C
