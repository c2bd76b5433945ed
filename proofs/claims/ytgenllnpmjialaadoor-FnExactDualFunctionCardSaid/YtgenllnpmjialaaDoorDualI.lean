/-
  The contracts of impl.areWeights and of DualFunction's closure.
-/
import Derived.Test.YtgenllnpmjialaaDoorModI
import Derived.Test.YtgenllnpmjialaaDoorVwI
import Derived.Test.YtgenllnpmjialaaDoorReM
import Derived.Test.YtgenllnpmjialaaDoorMkM
import Derived.Test.YtgenllnpmjialaaDoorHeld
namespace Go.Proofs.YtgenllnpmjialaaDoor.C
open Go.RowKit K M
set_option linter.unusedVariables false
set_option linter.unusedSimpArgs false

theorem compl_valD : ∀ n : Nat, n < 6 → ∀ s : Nat, s < 2 ^ n → bits .xor .i64 (s : Int) (((2 ^ n : Nat) : Int) - 1) = ((compl n s : Nat) : Int) := by decide +kernel

theorem complD (N S : Nat) (w : World) (h5 : N ≤ 5) (hS : S < 2 ^ N) : Calls Tryd.prog 35 #[.int .i64 S, .int .i64 N] w fun e w' => e = .returned (.int .i64 (compl N S : Nat)) ∧ w = w' := by
  have hx := compl_valD N (by omega) S hS
  have hsh := shl_one (n := (N : Int)) (m := 2 ^ N) (by omega) (by omega) (by rw [Int.toNat_natCast])
  rw [Int.toNat_natCast] at hsh
  generalize compl N S = q at hx ⊢
  have hp32 : 2 ^ N ≤ 32 := Nat.le_trans (Nat.pow_le_pow_right (by decide) h5) (by decide)
  have hp1 : 1 ≤ 2 ^ N := Nat.two_pow_pos N
  generalize 2 ^ N = p at hx hsh hp32 hp1
  have hN : (0 : Int) ≤ (N : Int) := by omega
  clear hS
  go_enter Tryd.func35, Tryd.ntmps35
  go_wp2
  go_ret
  exact ⟨rfl, rfl⟩

set_option maxRecDepth 100000 in
set_option maxHeartbeats 4000000 in
theorem dualC (D : Option Addr) (ws : List Int) (dap N S q : Nat) (x z : Int) (wb fb ab b off m cap : Nat) (w : World) (g : Hid (Ints w w.heap.size D ws)) (hv : weightsOk ws) (hN : ws.length = N) (h5 : N ≤ 5) (hS : S < 2 ^ N) (hq : compl N S = q) (hqm : q < m) (hbr : Hid (Brujn w))
    (x1 : -1000 ≤ x) (x2 : x ≤ 1000) (z1 : -1000 ≤ z) (z2 : z ≤ 1000)
    (hw : w.cell? ⟨wb, 0, none⟩ = some (.slice D N dap)) (hf0 : w.cell? ⟨fb, 0, none⟩ = some (.int .i64 N)) (hf1 : w.cell? ⟨fb, 1, none⟩ = some (.slice (some ⟨b, off, none⟩) m cap)) (ha : w.cell? ⟨ab, 0, none⟩ = some (.int .i64 z)) (hc : w.cell? ⟨b, off + q, none⟩ = some (.int .i64 x))
    (lw : wb < w.heap.size) (lf : fb < w.heap.size) (la : ab < w.heap.size) (lb : b < w.heap.size) :
    Calls Tryd.prog 36 #[.int .i64 S, .pointer (some ⟨wb, 0, none⟩), .pointer (some ⟨fb, 0, none⟩), .pointer (some ⟨ab, 0, none⟩)] w (RetV w (.int .i64 (weigh ws S N + x - z))) := by
  have HC := Lib.hid (fun W (hW : Ints W W.heap.size D ws) (hB : Brujn W) => weighI_any D ws dap S W (Lib.hid hW) hv (by omega) (by rw [hN]; exact hS) (Lib.hid hB))
  obtain ⟨g1, g2⟩ := weigh_bd hv S ws.length (Nat.le_refl _)
  have HK := Lib.hid (fun W => complD N S W h5 hS)
  rw [hq] at HK
  rw [hN] at HC g1 g2
  generalize weigh ws S N = y at *
  have hy1 : IntKind.i64.wrap (y + x) = y + x := IntWalk.i64_in _ (by omega)
  have hy2 : IntKind.i64.wrap (y + x - z) = y + x - z := IntWalk.i64_in _ (by omega)
  have hq0 : (0 : Int) ≤ (q : Int) := by omega
  have hqi : (q : Int) < (m : Int) := by omega
  have HW := Lib.hid (St.start w)
  have hf := hf1
  clear hv hS hq hf
  go_enter Tryd.func36, Tryd.ntmps36
  go_wp2
  go_region_held3 (fun w' => w'.cell? ⟨wb, 0, none⟩ = some (.slice D N dap) ∧ w'.cell? ⟨fb, 0, none⟩ = some (.int .i64 N) ∧ w'.cell? ⟨fb, 1, none⟩ = some (.slice (some ⟨b, off, none⟩) m cap) ∧ w'.cell? ⟨ab, 0, none⟩ = some (.int .i64 z) ∧ w'.cell? ⟨b, off + q, none⟩ = some (.int .i64 x)) (first | (refine ⟨?_, ?_, ?_, ?_, ?_⟩ <;> assumption) | assumption | go_keep) (first
    | (go_at_call 31; refine (HC.out _ ?_ ?_).mono ?_; (first | exact g.out | exact g.out.drew); (first | exact hbr.out | exact hbr.out); rintro e w2 ⟨rfl, hb2⟩; have HB2 := Lib.hid (HW.out.drew.below hb2); have hw' := (hb2.cell (p := ⟨wb, 0, none⟩) lw).trans hw; have hf0' := (hb2.cell (p := ⟨fb, 0, none⟩) lf).trans hf0; have hf1' := (hb2.cell (p := ⟨fb, 1, none⟩) lf).trans hf1; have ha' := (hb2.cell (p := ⟨ab, 0, none⟩) la).trans ha; have hc' := (hb2.cell (p := ⟨b, off + q, none⟩) lb).trans hc; clear hb2)
    | (go_at_call 35; refine (HK.out _).mono ?_; rintro e' w' ⟨rfl, rfl⟩))
  go_wp2
  go_ret
  exact ⟨rfl, HB2.out.base⟩

end Go.Proofs.YtgenllnpmjialaaDoor.C
