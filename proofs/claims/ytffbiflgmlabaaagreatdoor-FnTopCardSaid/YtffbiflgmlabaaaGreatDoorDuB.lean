/-
  The contracts of spec's chapter 8: capacities, tight sets, bases.
  The contracts of spec.RaiseVector, DualVector and IsDualVector.
  The contracts of spec.NegativePart and RankOfVector.
-/
import Derived.Test.YtffbiflgmlabaaaGreatDoorBsS
import Derived.Test.YtffbiflgmlabaaaGreatDoorVal
import Derived.Test.YtffbiflgmlabaaaGreatDoorDuA
import Derived.Test.YtffbiflgmlabaaaGreatDoorMiS
import Derived.Test.YtffbiflgmlabaaaGreatDoorSubS
import Derived.Test.YtffbiflgmlabaaaGreatDoorLolA
import Derived.StillTailTactics
import Derived.Test.YtffbiflgmlabaaaGreatDoorExA
namespace Go.Proofs.YtffbiflgmlabaaaGreatDoor.C
open Go.RowKit K M
set_option linter.unusedVariables false
set_option linter.unusedSimpArgs false
set_option linter.unusedSectionVars false


section

variable (n : Int) (A : Option Addr) (xs : List Int) (cap : Nat) (D : Option Addr) (ws : List Int) (dap : Nat) (e : Int) (w : World) (h : Hid (Ints w w.heap.size A xs)) (g : Hid (Ints w w.heap.size D ws)) (hl : ws.length ≤ 1048576)
include h g hl
set_option maxRecDepth 100000 in
set_option maxHeartbeats 1600000 in
theorem capS_no (q : isBelow n xs ws = false ∨ (isBelow n xs ws = true ∧ (e < 0 ∨ n - 1 < e))) :
    Calls Tryz.prog 67 #[.agg #[.int .i64 n, .slice A xs.length cap], .slice D ws.length dap, .int .i64 e] w (RetV w (.tuple #[.int .i64 0, .bool false])) := by
  have HW := Lib.hid (St.start w)
  have HB := Lib.hid (fun W h1 h2 => belowS_any n A xs cap D ws dap W (Lib.hid h1) (Lib.hid h2) hl)
  rcases q with q | ⟨q, q2⟩
  · rw [q] at HB
    clear q
    go_enter Tryz.func67, Tryz.ntmps67
    go_wp2_with fail
    refine St.use (w0 := w) (by exact HW.out.alloc _ _) ?_
    intro hS
    refine (HB.out _ ((h.out.below hS.base).mono hS.size) ((g.out.below hS.base).mono hS.size)).mono ?_
    rintro e' w1 ⟨rfl, hb⟩
    have HS := Lib.hid (hS.below hb)
    clear hS hb
    go_wp2
    exact bodyPost_ret (v := .tuple #[.int .i64 0, .bool false]) (by simp [results, Tryz.results67, go_sem]) rfl ⟨rfl, HS.out.base⟩
  · obtain ⟨q1, -, -, -⟩ := isBelow_yes q
    obtain ⟨n0, n5, -, -⟩ := isFn_yes (ground_fn q1)
    have hw : IntKind.i64.wrap (n - 1) = n - 1 := IntWalk.i64_in _ (by omega)
    rw [q] at HB
    have Q2 := Lib.hid q2
    clear q q1 q2
    go_enter Tryz.func67, Tryz.ntmps67
    go_wp2_with fail
    refine St.use (w0 := w) (by exact HW.out.alloc _ _) ?_
    intro hS
    refine (HB.out _ ((h.out.below hS.base).mono hS.size) ((g.out.below hS.base).mono hS.size)).mono ?_
    rintro e' w1 ⟨rfl, hb⟩
    have hS1 := hS.below hb
    obtain ⟨b0, -⟩ := hS1.box (i := 0) rfl
    have b00 := b0 0 _ rfl
    have HS := Lib.hid hS1
    clear hS hb b0 hS1
    go_wp2_with (go_at_call 32; refine (in_no e 0 (n - 1) _ Q2.out).mono ?_; rintro e' w2 ⟨rfl, rfl⟩)
    exact bodyPost_ret (v := .tuple #[.int .i64 0, .bool false]) (by simp [results, Tryz.results67, go_sem]) rfl ⟨rfl, HS.out.base⟩

set_option maxRecDepth 100000 in
set_option maxHeartbeats 3200000 in
theorem capS_yes (q : isBelow n xs ws = true) (e0 : 0 ≤ e) (e1 : e < n) :
    Calls Tryz.prog 67 #[.agg #[.int .i64 n, .slice A xs.length cap], .slice D ws.length dap, .int .i64 e] w (RetV w (.tuple #[.int .i64 (capTo xs ws (fun s => s.testBit e.toNat) xs.length), .bool true])) := by
  have HW := Lib.hid (St.start w)
  have HB := Lib.hid (fun W h1 h2 => belowS_any n A xs cap D ws dap W (Lib.hid h1) (Lib.hid h2) hl)
  rw [q] at HB
  obtain ⟨q1, q2, q3, -⟩ := isBelow_yes q
  obtain ⟨h5, hv⟩ := isVec5_yes q3
  have hfn := ground_fn q1
  obtain ⟨n0, n5, -, hxv⟩ := isFn_yes hfn
  have hx32 := (isFn_len hfn).2
  obtain ⟨E, rfl⟩ := Int.eq_ofNat_of_zero_le e0
  rw [Int.toNat_natCast]
  have HWS := Lib.hid (fun W s (h1 : Ints W W.heap.size D ws) (hs : s < 4294967296) => weigh5S_any D ws dap s W (Lib.hid h1) hv h5 hs)
  have HWB := Lib.hid (vec5_weigh q3)
  have HXV := Lib.hid hxv
  have HCB := Lib.hid (fun m hm => capTo_bd (xs := xs) (ws := ws) (p := fun s => s.testBit E) hxv (vec5_weigh q3) m hm)
  have HST := Lib.hid (fun s => (by rfl : capTo xs ws (fun s => s.testBit E) (s + 1) = if s.testBit E = true then min (capTo xs ws (fun s => s.testBit E) s) (xs.getD s 0 - weigh ws s ws.length) else capTo xs ws (fun s => s.testBit E) s))
  have hz : capTo xs ws (fun s => s.testBit E) 0 = 100000 := rfl
  generalize capTo xs ws (fun s => s.testBit E) = f at *
  obtain ⟨p, hp⟩ : ∃ p, xs.length = p := ⟨_, rfl⟩
  obtain ⟨m, hm⟩ : ∃ m, ws.length = m := ⟨_, rfl⟩
  have HP := Lib.hid hp
  rw [hp] at hx32 HB HCB HXV ⊢
  rw [hm] at HB HWS HWB HST h5 ⊢
  have hE : E < 64 := by omega
  have hw : IntKind.i64.wrap (n - 1) = n - 1 := IntWalk.i64_in _ (by omega)
  clear q q1 q2 q3 hv hp hm hl hfn hxv
  go_enter Tryz.func67, Tryz.ntmps67
  go_wp2_with fail
  refine St.use (w0 := w) (by exact HW.out.alloc _ _) ?_
  intro hS
  refine (HB.out _ ((h.out.below hS.base).mono hS.size) ((g.out.below hS.base).mono hS.size)).mono ?_
  rintro e' w1 ⟨rfl, hb⟩
  have hS1 := hS.below hb
  obtain ⟨b0, -⟩ := hS1.box (i := 0) rfl
  have b00 := b0 0 _ rfl
  have HS := Lib.hid hS1
  clear hS hb b0 hS1
  go_wp2_with (go_at_call 32; refine (in_yes _ 0 (n - 1) _ (by omega) (by omega)).mono ?_; rintro e' w2 ⟨rfl, rfl⟩)
  go_loopw [8, 9] (fun c i wr => ∃ s : Nat, i = .int .i64 s ∧ s ≤ p ∧ c = .int .i64 (f s) ∧ St w wr [bx w.heap.size 26 [.int .i64 n, .slice A p cap]]) (fun _ i _ => p - (intOf i).toNat)
  case atStart => exact ⟨0, rfl, Nat.zero_le _, by rw [hz], HS.out⟩
  case round =>
    obtain ⟨s, rfl, hs, rfl, hS⟩ := hrel
    obtain ⟨b0, -⟩ := hS.box (i := 0) rfl
    have d00 := b0 0 _ rfl
    have d01 := b0 1 _ rfl
    clear HS b00 b0 hz
    by_cases hlt : s < p
    · have hsi : (s : Int) < (p : Int) := by omega
      have hs0 : (0 : Int) ≤ (s : Int) := by omega
      obtain ⟨b, off, rfl, hbl, hc⟩ := (h.out.below hS.base).at_ (k := s) (by rw [HP.out]; exact hlt)
      have hq := fun W h1 => HWS.out W s h1 (by omega)
      have hbit := bit_val s E (by omega)
      have hst := HST.out s
      have x1 := HXV.out s hlt
      have y1 := HWB.out s
      have z1 := HCB.out s (by omega)
      generalize xs.getD s 0 = x at hc hst x1
      generalize weigh ws s m = y at hq hst y1
      generalize f s = z at hst z1 ⊢
      have HQ := Lib.hid hq
      have HR := Lib.hid hS
      clear hS hq
      by_cases ht : s.testBit E = true
      · rw [if_pos ht] at hst hbit
        have hxy : IntKind.i64.wrap (x - y) = x - y := IntWalk.i64_in _ (by omega)
        by_cases hmin : x - y < z
        · rw [Int.min_eq_right (by omega)] at hst
          have HT := Lib.hid hst
          clear hst
          go_wp2
          go_region_held3 (fun w' => w'.cell? ⟨w.heap.size, 1, none⟩ = some (.slice (some ⟨b, off, none⟩) p cap) ∧ w'.cell? ⟨b, off + s, none⟩ = some (.int .i64 x)) (first | (refine ⟨?_, ?_⟩ <;> assumption) | assumption | go_keep) ((go_at_call 87; refine (HQ.out _ ?_).mono ?_; (first | exact (g.out.below HR.out.base).mono HR.out.size | exact (g.out.below HR.out.drew.base).mono HR.out.drew.size); rintro e' w2 ⟨rfl, q, rfl⟩))
          go_wp2
          go_roundw
          case rel => exact ⟨s + 1, by go_num, by omega, by rw [HT.out], HR.out.drewN _⟩
          case measure => simp [intOf]; omega
        · rw [Int.min_eq_left (by omega)] at hst
          have HT := Lib.hid hst
          clear hst
          go_wp2
          go_region_held3 (fun w' => w'.cell? ⟨w.heap.size, 1, none⟩ = some (.slice (some ⟨b, off, none⟩) p cap) ∧ w'.cell? ⟨b, off + s, none⟩ = some (.int .i64 x)) (first | (refine ⟨?_, ?_⟩ <;> assumption) | assumption | go_keep) ((go_at_call 87; refine (HQ.out _ ?_).mono ?_; (first | exact (g.out.below HR.out.base).mono HR.out.size | exact (g.out.below HR.out.drew.base).mono HR.out.drew.size); rintro e' w2 ⟨rfl, q, rfl⟩))
          go_wp2
          go_roundw
          case rel => exact ⟨s + 1, by go_num, by omega, by rw [HT.out, if_neg (by omega)], HR.out.drewN _⟩
          case measure => simp [intOf]; omega
      · rw [if_neg ht] at hst hbit
        have HT := Lib.hid hst
        clear hst
        go_wp2
        go_roundw
        case rel => exact ⟨s + 1, by go_num, by omega, by rw [HT.out], HR.out⟩
        case measure => simp [intOf]; omega
    · obtain rfl : s = p := by omega
      have hsi : ¬ (s : Int) < (s : Int) := by omega
      have HR := Lib.hid hS
      clear hS
      go_wp2
      exact bodyPost_ret (v := .tuple #[.int .i64 (f s), .bool true]) (by simp [results, Tryz.results67, go_sem]) rfl ⟨rfl, HR.out.base⟩
theorem capS_any : Calls Tryz.prog 67 #[.agg #[.int .i64 n, .slice A xs.length cap], .slice D ws.length dap, .int .i64 e] w (RetV w (.tuple #[.int .i64 (capOf n xs ws e).1, .bool (capOf n xs ws e).2])) := by
  unfold capOf
  cases q : isBelow n xs ws
  · rw [if_neg (by simp)]
    exact capS_no n A xs cap D ws dap e w h g hl (.inl q)
  · by_cases he : 0 ≤ e ∧ e < n
    · rw [if_pos ⟨rfl, he⟩]
      exact capS_yes n A xs cap D ws dap e w h g hl q he.1 he.2
    · rw [if_neg fun hh => he hh.2]
      exact capS_no n A xs cap D ws dap e w h g hl (.inr ⟨q, by omega⟩)

end


end Go.Proofs.YtffbiflgmlabaaaGreatDoor.C

namespace Go.Proofs.YtffbiflgmlabaaaGreatDoor.K
open Go.RowKit
set_option linter.unusedVariables false


section

variable {w0 w w' : World} {L L' : List Cel}
/-- A list without elements appended, wherever it lies: nothing turns. -/
theorem wpList_appZ {ops : Array Oper} {rest : List Oper} {o' : Oper} {a : Act} {Q : Exit → Act → World → Prop} (hgd : o'.guard = none) (s x : Operand) (t : TypeId)
    (ho : o'.op = .call { callee := .builtin .append, args := #[s, x], argTypes := #[t, t] })
    {i n c : Nat} {v : Value} {A : Option Addr} {xs : List Int} {o : TypeInfo} (ht : Tryz.prog.underlying t = some (.slice 3)) (hio : Tryz.prog.info? 3 = some o)
    (h : St w0 w L) (hi : L[i]? = some (il v n xs)) (hs : a.eval s = v) (hx : a.eval x = .slice A 0 c)
    (hK : wpList Tryz.prog ops Q rest (a.put o'.dst v) w) : wpList Tryz.prog ops Q (o' :: rest) a w :=
  wpList_plain hgd fun _ hk => by
    have hr : (Builtin.append_ #[t, t] o'.type #[v, .slice A 0 c]).run Tryz.prog w = .ok v w := by
      rcases (h.own hi).2 with ⟨hv, hn⟩ | ⟨g, cap, cur, hv, _, _, hnc, _⟩
      · obtain rfl : v = .slice none 0 0 := hv
        cases A <;> simp [Builtin.append_, run_underlying ht, sizeOf, typeInfo, hio, Builtin.lenOf, Builtin.firstCells, loadCells, loadCellsFrom]
      · have hv' : v = .slice (some ⟨g, 0, none⟩) n cap := hv
        subst hv'
        have hnc' : n ≤ cap := hnc
        cases A <;> simp [Builtin.append_, run_underlying ht, sizeOf, typeInfo, hio, Builtin.lenOf, Builtin.firstCells, loadCells, loadCellsFrom, storeCells, hnc']
    unfold Oper.wp execOp
    simp only [ho, resolve, invoke, builtin, Sem.run_bind, Sem.run_pure, Result.andThen_ok, List.map_toArray, List.map_cons, List.map_nil, hs, hx]
    rw [hr]
    exact hk _ _ hK

end


end Go.Proofs.YtffbiflgmlabaaaGreatDoor.K
namespace Go.Proofs.YtffbiflgmlabaaaGreatDoor.C
open Go.RowKit K M
set_option linter.unusedVariables false
set_option linter.unusedSimpArgs false
set_option linter.unusedSectionVars false

theorem min_if (y z : Int) : min y z = if z < y then z else y := by
  split <;> omega


section

variable (n : Int) (A : Option Addr) (xs : List Int) (cap : Nat) (D : Option Addr) (ws : List Int) (dap : Nat) (E : Option Addr) (ms : List Int) (eap : Nat) (w : World) (h : Hid (Ints w w.heap.size A xs)) (g : Hid (Ints w w.heap.size D ws)) (k : Hid (Ints w w.heap.size E ms)) (hl : ws.length ≤ 1048576) (hml : ms.length ≤ 1048576)
include h g k hl hml

set_option maxRecDepth 100000 in
set_option maxHeartbeats 1600000 in
theorem raiseS_no (q : isSub n xs = false ∨ (isSub n xs = true ∧ isBelow n xs ws = false) ∨ (isSub n xs = true ∧ isBelow n xs ws = true ∧ isVec5 ms = false) ∨ (isSub n xs = true ∧ isBelow n xs ws = true ∧ isVec5 ms = true ∧ ms.length ≠ ws.length)) :
    Calls Tryz.prog 45 #[.agg #[.int .i64 n, .slice A xs.length cap], .slice D ws.length dap, .slice E ms.length eap] w (RetIB w [] false) := by
  have HW := Lib.hid (St.start w)
  have HG := Lib.hid (fun W h1 => subS_any n A xs cap W (Lib.hid h1))
  have HB := Lib.hid (fun W h1 h2 => belowS_any n A xs cap D ws dap W (Lib.hid h1) (Lib.hid h2) hl)
  have HV := Lib.hid (fun W h1 => vec5S_any E ms eap W (Lib.hid h1) hml)
  rcases q with q | ⟨q, q2⟩ | ⟨q, q2, q3⟩ | ⟨q, q2, q3, q4⟩
  all_goals (rw [q] at HG)
  all_goals (try rw [q2] at HB)
  all_goals (try rw [q3] at HV)
  · clear q
    go_enter Tryz.func45, Tryz.ntmps45
    go_wp2_with (go_at_call 10; refine St.use (w0 := w) (by exact HW.out.alloc _ _) ?_; intro hS; refine (HG.out _ ((h.out.below hS.base).mono hS.size)).mono ?_; rintro e w1 ⟨rfl, hb⟩; have HS := Lib.hid (hS.below hb); clear hS hb)
    have HE := Lib.hid HS.out.empty
    exact bodyPost_ret (v := .tuple #[.slice (some ⟨w1.heap.size, 0, none⟩) 0 0, .bool false]) (by simp [results, Tryz.results45, go_sem]) rfl ⟨_, _, rfl, HE.out.ownI (i := 0) rfl, HE.out.base⟩
  · clear q q2
    go_enter Tryz.func45, Tryz.ntmps45
    go_wp2_with (first
      | (go_at_call 10; refine St.use (w0 := w) (by exact HW.out.alloc _ _) ?_; intro hS; refine (HG.out _ ((h.out.below hS.base).mono hS.size)).mono ?_; rintro e w1 ⟨rfl, hb⟩; have hS1 := hS.below hb; obtain ⟨b0, -⟩ := hS1.box (i := 0) rfl; have b00 := b0 0 _ rfl; have b01 := b0 1 _ rfl; have HS := Lib.hid hS1; clear hS hb hS1 b0)
      | (go_at_call 66; refine (HB.out _ ((h.out.below HS.out.base).mono HS.out.size) ((g.out.below HS.out.base).mono HS.out.size)).mono ?_; rintro e w2 ⟨rfl, hb⟩; have HS2 := Lib.hid (HS.out.below hb); clear hb b00 b01))
    have HE := Lib.hid HS2.out.empty
    exact bodyPost_ret (v := .tuple #[.slice (some ⟨w2.heap.size, 0, none⟩) 0 0, .bool false]) (by simp [results, Tryz.results45, go_sem]) rfl ⟨_, _, rfl, HE.out.ownI (i := 0) rfl, HE.out.base⟩
  · clear q q2 q3
    go_enter Tryz.func45, Tryz.ntmps45
    go_wp2_with (first
      | (go_at_call 10; refine St.use (w0 := w) (by exact HW.out.alloc _ _) ?_; intro hS; refine (HG.out _ ((h.out.below hS.base).mono hS.size)).mono ?_; rintro e w1 ⟨rfl, hb⟩; have hS1 := hS.below hb; obtain ⟨b0, -⟩ := hS1.box (i := 0) rfl; have b00 := b0 0 _ rfl; have b01 := b0 1 _ rfl; have HS := Lib.hid hS1; clear hS hb hS1 b0)
      | (go_at_call 66; refine (HB.out _ ((h.out.below HS.out.base).mono HS.out.size) ((g.out.below HS.out.base).mono HS.out.size)).mono ?_; rintro e w2 ⟨rfl, hb⟩; have HS2 := Lib.hid (HS.out.below hb); clear hb b00 b01)
      | (go_at_call 52; refine (HV.out _ ((k.out.below HS2.out.base).mono HS2.out.size)).mono ?_; rintro e w3 ⟨rfl, rfl⟩))
    have HE := Lib.hid HS2.out.empty
    exact bodyPost_ret (v := .tuple #[.slice (some ⟨w2.heap.size, 0, none⟩) 0 0, .bool false]) (by simp [results, Tryz.results45, go_sem]) rfl ⟨_, _, rfl, HE.out.ownI (i := 0) rfl, HE.out.base⟩
  · have hne : ((ms.length : Int) != (ws.length : Int)) = true := bne_iff_ne.2 (by omega)
    clear q q2 q3 q4
    go_enter Tryz.func45, Tryz.ntmps45
    go_wp2_with (first
      | (go_at_call 10; refine St.use (w0 := w) (by exact HW.out.alloc _ _) ?_; intro hS; refine (HG.out _ ((h.out.below hS.base).mono hS.size)).mono ?_; rintro e w1 ⟨rfl, hb⟩; have hS1 := hS.below hb; obtain ⟨b0, -⟩ := hS1.box (i := 0) rfl; have b00 := b0 0 _ rfl; have b01 := b0 1 _ rfl; have HS := Lib.hid hS1; clear hS hb hS1 b0)
      | (go_at_call 66; refine (HB.out _ ((h.out.below HS.out.base).mono HS.out.size) ((g.out.below HS.out.base).mono HS.out.size)).mono ?_; rintro e w2 ⟨rfl, hb⟩; have HS2 := Lib.hid (HS.out.below hb); clear hb b00 b01)
      | (go_at_call 52; refine (HV.out _ ((k.out.below HS2.out.base).mono HS2.out.size)).mono ?_; rintro e w3 ⟨rfl, rfl⟩))
    have HE := Lib.hid HS2.out.empty
    exact bodyPost_ret (v := .tuple #[.slice (some ⟨w2.heap.size, 0, none⟩) 0 0, .bool false]) (by simp [results, Tryz.results45, go_sem]) rfl ⟨_, _, rfl, HE.out.ownI (i := 0) rfl, HE.out.base⟩

set_option maxRecDepth 100000 in
set_option maxHeartbeats 8000000 in
theorem raiseS_yes (q1 : isSub n xs = true) (q2 : isBelow n xs ws = true) (q3 : isVec5 ms = true) (q4 : ms.length = ws.length) :
    Calls Tryz.prog 45 #[.agg #[.int .i64 n, .slice A xs.length cap], .slice D ws.length dap, .slice E ms.length eap] w (RetIB w (raiseTo xs ws ms ws.length) true) := by
  have HW := Lib.hid (St.start w)
  have HG := Lib.hid (fun W h1 => subS_any n A xs cap W (Lib.hid h1))
  have HB := Lib.hid (fun W h1 h2 => belowS_any n A xs cap D ws dap W (Lib.hid h1) (Lib.hid h2) hl)
  have HV := Lib.hid (fun W h1 => vec5S_any E ms eap W (Lib.hid h1) hml)
  rw [q1] at HG
  rw [q2] at HB
  rw [q3] at HV
  obtain ⟨h0, -, -, -⟩ := isFn_yes (ground_fn (isBelow_yes q2).1)
  obtain ⟨N, rfl⟩ := Int.eq_ofNat_of_zero_le h0
  have bl := bl_of q2
  obtain ⟨-, hmv⟩ := isVec5_yes q3
  have hmN : ms.length = N := by rw [q4, bl.len]
  have hBL := raise_bl bl (fun k hk => (hmv k (by omega)).2)
  have HCP := Lib.hid (fun (k : Nat) (hk : k < N) W V v h1 h2 => capS_any (N : Int) A xs cap V (raiseTo xs ws ms k) v (k : Int) W (Lib.hid h1) (Lib.hid h2) (by rw [raise_len, bl.len]; have := bl.five; omega))
  have HCV := Lib.hid (fun (k : Nat) (hk : k < N) => capOf_in (hBL k (by omega)) hk)
  have HCB := Lib.hid (fun (k : Nat) (hk : k < N) => capE_pos (hBL k (by omega)) k)
  have HCU := Lib.hid (fun (k : Nat) (hk : k < N) => show capE xs (raiseTo xs ws ms k) k ≤ 100000 from by
    rcases capE_at (hBL k (by omega)) k with h1 | ⟨S, s1, -, s3⟩
    · omega
    · have b1 := (hBL k (by omega)).bx S (by rw [bl.lx]; exact s1)
      have b2 := vec5_weigh (isBelow_yes (hBL k (by omega)).is).2.2.1 S
      rw [(hBL k (by omega)).len] at b2
      omega)
  have HBW := Lib.hid (fun (k : Nat) (hk : k < N) => (hBL k (by omega)).bw k hk)
  have HMV := Lib.hid (fun (k : Nat) (hk : k < N) => hmv k (by omega))
  have HST := Lib.hid (fun k => show raiseTo xs ws ms (k + 1) = if (raiseTo xs ws ms k).getD k 0 < ms.getD k 0 then (raiseTo xs ws ms k).set k (min (ms.getD k 0) ((raiseTo xs ws ms k).getD k 0 + capE xs (raiseTo xs ws ms k) k)) else raiseTo xs ws ms k from rfl)
  have HLE := Lib.hid (fun k => show (raiseTo xs ws ms k).length = N by rw [raise_len, bl.len])
  have hz : raiseTo xs ws ms 0 = ws := rfl
  have hwN := bl.len
  have h5 := bl.five
  have HWN := Lib.hid hwN
  have HMN := Lib.hid hmN
  rw [hwN] at HB ⊢
  rw [hmN] at HV ⊢
  generalize raiseTo xs ws ms = f at *
  clear q1 q2 q3 q4 bl hBL hmv hml hl hwN hmN h0
  obtain ⟨i0, hi, hz0, hz1, hz2⟩ := info_parts info_int
  have hne : ((N : Int) != (N : Int)) = false := by simp
  go_enter Tryz.func45, Tryz.ntmps45
  rcases Nat.eq_zero_or_pos N with hN0 | hNp
  · have hws : ws = [] := List.eq_nil_of_length_eq_zero (by rw [HWN.out]; exact hN0)
    subst hN0
    have hf0 : f 0 = [] := by rw [hz, hws]
    rw [hf0]
    clear HCP HCV HCB HCU HBW HMV HST HLE hz hf0
    go_wp2_with (first
      | (go_at_call 10; refine St.use (w0 := w) (by exact HW.out.alloc _ _) ?_; intro hS; refine (HG.out _ ((h.out.below hS.base).mono hS.size)).mono ?_; rintro e w1 ⟨rfl, hb⟩; have hS1 := hS.below hb; obtain ⟨b0, -⟩ := hS1.box (i := 0) rfl; have b00 := b0 0 _ rfl; have b01 := b0 1 _ rfl; have HS := Lib.hid hS1; clear hS hb hS1 b0)
      | (go_at_call 66; refine (HB.out _ ((h.out.below HS.out.base).mono HS.out.size) ((g.out.below HS.out.base).mono HS.out.size)).mono ?_; rintro e w2 ⟨rfl, hb⟩; have HS2 := Lib.hid (HS.out.below hb); clear hb b00 b01)
      | (go_at_call 52; refine (HV.out _ ((k.out.below HS2.out.base).mono HS2.out.size)).mono ?_; rintro e w3 ⟨rfl, rfl⟩)
      | (at_builtin; refine wpList_appZ rfl (.tmp 34) (.tmp 35) 24 rfl Tryz.underlying24 hi HS2.out.empty (i := 0) rfl rfl rfl ?_))
    have HE := Lib.hid HS2.out.empty
    go_loopw [9] (fun i wr => i = .int .i64 0 ∧ St w wr [il (.slice (some ⟨w2.heap.size, 0, none⟩) 0 0) 0 [], bx w.heap.size 26 [.int .i64 ((0 : Nat) : Int), .slice A xs.length cap]]) (fun _ _ => 0)
    case atStart => exact ⟨rfl, HE.out⟩
    case round =>
      obtain ⟨rfl, hS⟩ := hrel
      have HR := Lib.hid hS
      clear HE hS
      go_wp2
      exact bodyPost_ret (v := .tuple #[.slice (some ⟨w2.heap.size, 0, none⟩) 0 0, .bool true]) (by simp [results, Tryz.results45, go_sem]) rfl ⟨_, _, rfl, HR.out.ownI (i := 0) rfl, HR.out.base⟩
  · obtain ⟨b, off, rfl, hbl, hcc⟩ := g.out (by rw [HWN.out]; exact hNp)
    have HCC := Lib.hid (fun (W : World) (hb : Below w.heap.size w W) j (hj : j < N) => (hb.cell (p := ⟨b, off + j, none⟩) hbl).trans (hcc j (by rw [HWN.out]; exact hj)))
    clear hcc
    go_wp2_with (first
      | (go_at_call 10; refine St.use (w0 := w) (by exact HW.out.alloc _ _) ?_; intro hS; refine (HG.out _ ((h.out.below hS.base).mono hS.size)).mono ?_; rintro e w1 ⟨rfl, hb⟩; have hS1 := hS.below hb; obtain ⟨b0, -⟩ := hS1.box (i := 0) rfl; have b00 := b0 0 _ rfl; have b01 := b0 1 _ rfl; have HS := Lib.hid hS1; clear hS hb hS1 b0)
      | (go_at_call 66; refine (HB.out _ ((h.out.below HS.out.base).mono HS.out.size) ((g.out.below HS.out.base).mono HS.out.size)).mono ?_; rintro e w2 ⟨rfl, hb⟩; have HS2 := Lib.hid (HS.out.below hb); clear hb b00 b01)
      | (go_at_call 52; refine (HV.out _ ((k.out.below HS2.out.base).mono HS2.out.size)).mono ?_; rintro e w3 ⟨rfl, rfl⟩)
      | (at_builtin; refine wpList_appN rfl (.tmp 34) (.tmp 35) 24 rfl ws Tryz.underlying24 hi hz0 hz1 hz2 HS2.out.empty (i := 0) rfl HWN.out rfl rfl (HCC.out _ HS2.out.empty.base) (by simp) (by omega) (by omega) (Nat.zero_add N) ?_; intro g5 c5 w5 hS5; have HE := Lib.hid hS5; clear hS5))
    rw [List.nil_append] at HE
    go_loopw [9] (fun i wr => ∃ j : Nat, i = .int .i64 j ∧ j ≤ N ∧ St w wr [il (.slice (some ⟨g5, 0, none⟩) N c5) N (f j), bx w.heap.size 26 [.int .i64 N, .slice A xs.length cap]]) (fun i _ => N - (intOf i).toNat)
    case atStart => exact ⟨0, rfl, Nat.zero_le _, by rw [hz]; exact HE.out⟩
    case round =>
      obtain ⟨j, rfl, hj, hS⟩ := hrel
      obtain ⟨b0, -⟩ := hS.box (i := 1) rfl
      have d00 := b0 0 _ rfl
      have d01 := b0 1 _ rfl
      clear b0 HE hz
      have HR := Lib.hid hS
      clear hS
      by_cases hlt : j < N
      · have hji : (j : Int) < (N : Int) := by omega
        have hj0 : (0 : Int) ≤ (j : Int) := by omega
        have HQ := HCP.out j hlt
        rw [HCV.out j hlt] at HQ
        dsimp only at HQ
        have hcb := HCB.out j hlt
        have hcu := HCU.out j hlt
        have hbw := HBW.out j hlt
        have hmv := HMV.out j hlt
        have hst := HST.out j
        rw [HLE.out j] at HQ
        have HCALL := Lib.hid HQ
        clear HQ
        generalize capE xs (f j) j = cv at *
        obtain ⟨bm, om, rfl, hbm, hcm⟩ := k.out.at_ (k := j) (by rw [HMN.out]; exact hlt)
        generalize ms.getD j 0 = y at *
        have HCM := Lib.hid hcm
        clear hcm
        go_wp2_with (go_at_call 67; refine (HCALL.out _ _ _ ((h.out.below HR.out.base).mono HR.out.size) (HR.out.ints (i := 0) rfl)).mono ?_; rintro e w6 ⟨rfl, hb⟩; have HT := Lib.hid (HR.out.below hb); clear hb d00 d01)
        obtain ⟨k1, k2⟩ := HT.out.cellI (i := 0) rfl hlt
        have k3 := (HT.out.base.cell (p := ⟨bm, om + j, none⟩) hbm).trans HCM.out
        generalize hx : (f j).getD j 0 = x at *
        by_cases hxy : x < y
        · rw [if_pos hxy] at hst
          have HX := Lib.hid hst
          have HXV := Lib.hid hx
          have hw : IntKind.i64.wrap (x + cv) = x + cv := IntWalk.i64_in _ (by omega)
          clear hst hx
          go_wp2
          go_quiet (fail)
          go_wp2
          have HT2 := Lib.hid (HT.out.drewN nq)
          clear HT k1 k2 k3
          generalize w6.drewN nq = wq at HT2 ⊢
          obtain ⟨k1, k2⟩ := HT2.out.cellI (i := 0) rfl hlt
          have k3 := (HT2.out.base.cell (p := ⟨bm, om + j, none⟩) hbm).trans HCM.out
          rw [HXV.out] at k1
          go_still_tail 14, (by kernel_rfl)
          change wpList _ _ _ _ _ wq.drew
          generalize hwd : wq.drew = wd
          have f1 : wd.cell? ⟨g5, j, none⟩ = some (.int .i64 x) := by rw [← hwd]; exact k1
          have f2 : wd.frozen? ⟨g5, j, none⟩ = false := by rw [← hwd]; exact k2
          have HR2 := Lib.hid (show St w wd _ from hwd ▸ HT2.out.drew)
          clear hwd k1 k2 k3
          go_wp2
          go_roundw
          case rel => exact ⟨j + 1, by go_num, by omega, by rw [HX.out, min_if]; exact HR2.out.setI (i := 0) rfl j _⟩
          case measure => simp [intOf]; omega
        · rw [if_neg hxy] at hst
          have HX := Lib.hid hst
          clear hst hx
          go_wp2
          go_quiet (fail)
          go_wp2
          go_roundw
          case rel => exact ⟨j + 1, by go_num, by omega, by rw [HX.out]; exact HT.out.drewN _⟩
          case measure => simp [intOf]; omega
      · obtain rfl : j = N := by omega
        have hji : ¬ (j : Int) < (j : Int) := by omega
        have hfl := HLE.out j
        go_wp2
        exact bodyPost_ret (v := .tuple #[.slice (some ⟨g5, 0, none⟩) j c5, .bool true]) (by simp [results, Tryz.results45, go_sem]) rfl ⟨_, _, by rw [hfl], by rw [hfl]; exact HR.out.ownI (i := 0) rfl, HR.out.base⟩

theorem raiseS_any : Calls Tryz.prog 45 #[.agg #[.int .i64 n, .slice A xs.length cap], .slice D ws.length dap, .slice E ms.length eap] w (RetIB w (raiseVec n xs ws ms).1 (raiseVec n xs ws ms).2) := by
  unfold raiseVec
  cases q1 : isSub n xs
  · rw [if_neg (by simp)]
    exact raiseS_no n A xs cap D ws dap E ms eap w h g k hl hml (.inl q1)
  · cases q2 : isBelow n xs ws
    · rw [if_neg (by simp)]
      exact raiseS_no n A xs cap D ws dap E ms eap w h g k hl hml (.inr (.inl ⟨q1, q2⟩))
    · cases q3 : isVec5 ms
      · rw [if_neg (by simp)]
        exact raiseS_no n A xs cap D ws dap E ms eap w h g k hl hml (.inr (.inr (.inl ⟨q1, q2, q3⟩)))
      · by_cases q4 : ms.length = ws.length
        · rw [if_pos ⟨rfl, rfl, rfl, q4⟩]
          exact raiseS_yes n A xs cap D ws dap E ms eap w h g k hl hml q1 q2 q3 q4
        · rw [if_neg fun hh => q4 hh.2.2.2]
          exact raiseS_no n A xs cap D ws dap E ms eap w h g k hl hml (.inr (.inr (.inr ⟨q1, q2, q3, q4⟩)))

end



section

variable (n : Int) (A : Option Addr) (xs : List Int) (cap : Nat) (w : World) (h : Hid (Ints w w.heap.size A xs))
include h

set_option maxRecDepth 100000 in
theorem dualS_no (q : isGround n xs = false ∨ (isGround n xs = true ∧ isSub n xs = false)) : Calls Tryz.prog 17 #[.agg #[.int .i64 n, .slice A xs.length cap]] w (RetIB w [] false) := by
  have HW := Lib.hid (St.start w)
  have HG := Lib.hid (fun W h1 => groundS_any n A xs cap W (Lib.hid h1))
  have HB := Lib.hid (fun W h1 => subS_any n A xs cap W (Lib.hid h1))
  rcases q with q | ⟨q, q2⟩
  · rw [q] at HG
    clear q
    go_enter Tryz.func17, Tryz.ntmps17
    go_wp2_with (go_at_call 18; refine St.use (w0 := w) (by exact HW.out.alloc _ _) ?_; intro hS; refine (HG.out _ ((h.out.below hS.base).mono hS.size)).mono ?_; rintro e w1 ⟨rfl, hb⟩; have HS := Lib.hid (hS.below hb); clear hS hb)
    have HE := Lib.hid HS.out.empty
    exact bodyPost_ret (v := .tuple #[.slice (some ⟨w1.heap.size, 0, none⟩) 0 0, .bool false]) (by simp [results, Tryz.results17, go_sem]) rfl ⟨_, _, rfl, HE.out.ownI (i := 0) rfl, HE.out.base⟩
  · rw [q] at HG
    rw [q2] at HB
    clear q q2
    go_enter Tryz.func17, Tryz.ntmps17
    go_wp2_with (first
      | (go_at_call 18; refine St.use (w0 := w) (by exact HW.out.alloc _ _) ?_; intro hS; refine (HG.out _ ((h.out.below hS.base).mono hS.size)).mono ?_; rintro e w1 ⟨rfl, hb⟩; have hS1 := hS.below hb; obtain ⟨b0, -⟩ := hS1.box (i := 0) rfl; have b00 := b0 0 _ rfl; have b01 := b0 1 _ rfl; have HS := Lib.hid hS1; clear hS hb hS1 b0)
      | (go_at_call 10; refine (HB.out _ ((h.out.below HS.out.base).mono HS.out.size)).mono ?_; rintro e w2 ⟨rfl, hb⟩; have HS2 := Lib.hid (HS.out.below hb); clear hb b00 b01))
    have HE := Lib.hid HS2.out.empty
    exact bodyPost_ret (v := .tuple #[.slice (some ⟨w2.heap.size, 0, none⟩) 0 0, .bool false]) (by simp [results, Tryz.results17, go_sem]) rfl ⟨_, _, rfl, HE.out.ownI (i := 0) rfl, HE.out.base⟩

omit h in
theorem rep_snoc (j : Nat) (c : Int) : List.replicate j c ++ [c] = List.replicate (j + 1) c := by
  rw [List.replicate_succ']

set_option maxRecDepth 100000 in
set_option maxHeartbeats 4000000 in
theorem dualS_yes (q1 : isGround n xs = true) (q2 : isSub n xs = true) : Calls Tryz.prog 17 #[.agg #[.int .i64 n, .slice A xs.length cap]] w (RetIB w (dualVec n xs).1 true) := by
  have HW := Lib.hid (St.start w)
  have HG := Lib.hid (fun W h1 => groundS_any n A xs cap W (Lib.hid h1))
  have HB := Lib.hid (fun W h1 => subS_any n A xs cap W (Lib.hid h1))
  rw [q1] at HG
  rw [q2] at HB
  obtain ⟨h0, h5, -, -⟩ := isFn_yes (ground_fn q1)
  obtain ⟨N, rfl⟩ := Int.eq_ofNat_of_zero_le h0
  have HR := Lib.hid (fun (W : World) V v U u h1 h2 h3 => raiseS_any (N : Int) A xs cap V (List.replicate N (-2000)) v U (List.replicate N 0) u W (Lib.hid h1) (Lib.hid h2) (Lib.hid h3) (by rw [List.length_replicate]; omega) (by rw [List.length_replicate]; omega))
  have hrd := raise_dual q1 q2
  rw [Int.toNat_natCast] at hrd
  rw [hrd, List.length_replicate, List.length_replicate] at HR
  have hdv : (dualVec (N : Int) xs).1 = raiseTo xs (List.replicate N (-2000)) (List.replicate N 0) N := by
    unfold dualVec
    rw [if_pos ⟨q1, q2⟩, Int.toNat_natCast]
  rw [hdv]
  dsimp only at HR
  generalize raiseTo xs (List.replicate N (-2000)) (List.replicate N 0) N = res at HR ⊢
  obtain ⟨i0, hi, hz0, hz1, hz2⟩ := info_parts info_int
  clear q1 q2 h0 hrd hdv
  go_enter Tryz.func17, Tryz.ntmps17
  go_wp2_with (first
    | (go_at_call 18; refine St.use (w0 := w) (by exact HW.out.alloc _ _) ?_; intro hS; refine (HG.out _ ((h.out.below hS.base).mono hS.size)).mono ?_; rintro e w1 ⟨rfl, hb⟩; have hS1 := hS.below hb; obtain ⟨b0, -⟩ := hS1.box (i := 0) rfl; have b00 := b0 0 _ rfl; have b01 := b0 1 _ rfl; have HS := Lib.hid hS1; clear hS hb hS1 b0)
    | (go_at_call 10; refine (HB.out _ ((h.out.below HS.out.base).mono HS.out.size)).mono ?_; rintro e w2 ⟨rfl, hb⟩; have HS2 := Lib.hid (HS.out.below hb); clear hb b00 b01))
  have HE := Lib.hid HS2.out.empty.empty
  simp only [World.size_alloc] at HE
  generalize hW3 : (w2.alloc (.cells #[] 3)).alloc (.cells #[] 3) = w3 at HE ⊢
  clear hW3
  go_loopw [4, 5, 6] (fun v u i wr => ∃ (j : Nat) (V U : Option Addr) (c d : Nat), i = .int .i64 j ∧ j ≤ N ∧ v = .slice V j c ∧ u = .slice U j d ∧ St w wr [il (.slice U j d) j (List.replicate j 0), il (.slice V j c) j (List.replicate j (-2000)), bx w.heap.size 26 [.int .i64 N, .slice A xs.length cap]]) (fun _ _ i _ => N - (intOf i).toNat)
  case atStart => exact ⟨0, _, _, _, _, rfl, Nat.zero_le _, rfl, rfl, HE.out⟩
  case round =>
    obtain ⟨j, V, U, c, d, rfl, hj, rfl, rfl, hS⟩ := hrel
    obtain ⟨b0, -⟩ := hS.box (i := 2) rfl
    have d00 := b0 0 _ rfl
    have d01 := b0 1 _ rfl
    clear b0 HE
    have HT := Lib.hid hS
    clear hS
    by_cases hlt : j < N
    · have hji : (j : Int) < (N : Int) := by omega
      go_wp2_with (first
        | (at_builtin; refine wpList_app1 rfl (.tmp 26) (.tmp 27) 24 rfl (-2000) Tryz.underlying24 hi hz0 hz1 hz2 ((HT.out.alloc _ _).drop 0) (i := 1) rfl rfl rfl (by simp) (by omega) ?_; intro V' c' w4 hS4; have HT4 := Lib.hid hS4; clear hS4)
        | (at_builtin; refine wpList_app1 rfl (.tmp 29) (.tmp 30) 24 rfl 0 Tryz.underlying24 hi hz0 hz1 hz2 ((HT4.out.alloc _ _).drop 0) (i := 0) rfl rfl rfl (by simp) (by omega) ?_; intro U' d' w5 hS5; have HT5 := Lib.hid hS5; clear hS5))
      go_roundw
      case rel => exact ⟨j + 1, V', U', c', d', by go_num, by omega, rfl, rfl, by rw [← rep_snoc, ← rep_snoc]; exact HT5.out⟩
      case measure => simp [intOf]; omega
    · obtain rfl : j = N := by omega
      have hji : ¬ (j : Int) < (j : Int) := by omega
      go_wp2_with fail
      refine (HR.out _ _ _ _ _ ((h.out.below HT.out.base).mono HT.out.size) (HT.out.ints (i := 1) rfl) (HT.out.ints (i := 0) rfl)).mono ?_
      rintro e w6 ⟨V6, c6, rfl, ho, hb⟩
      have HT6 := Lib.hid (HT.out.newI hb ho)
      clear ho hb
      go_wp2
      exact bodyPost_ret (v := .tuple #[.slice V6 res.length c6, .bool true]) (by simp [results, Tryz.results17, go_sem]) rfl ⟨_, _, rfl, HT6.out.ownI (i := 0) rfl, HT6.out.base⟩

theorem dualS_any5 : Calls Tryz.prog 17 #[.agg #[.int .i64 n, .slice A xs.length cap]] w (RetIB w (dualVec n xs).1 (dualVec n xs).2) := by
  have hd : (dualVec n xs).2 = (isGround n xs && isSub n xs) := by
    unfold dualVec
    cases isGround n xs <;> cases isSub n xs <;> simp
  rw [hd]
  cases q1 : isGround n xs
  · have e : (dualVec n xs).1 = [] := by unfold dualVec; rw [if_neg (by rw [q1]; simp)]
    rw [e]
    exact dualS_no n A xs cap w h (.inl q1)
  · cases q2 : isSub n xs
    · have e : (dualVec n xs).1 = [] := by unfold dualVec; rw [if_neg (by rw [q2]; simp)]
      rw [e]
      exact dualS_no n A xs cap w h (.inr ⟨q1, q2⟩)
    · exact dualS_yes n A xs cap w h q1 q2

end



section

variable (n : Int) (A : Option Addr) (xs : List Int) (cap : Nat) (D : Option Addr) (ws : List Int) (dap : Nat) (w : World) (h : Hid (Ints w w.heap.size A xs)) (g : Hid (Ints w w.heap.size D ws)) (hl : ws.length ≤ 1048576)
include h g hl

omit h g hl in
theorem dsum_bd {ws : List Int} {m : Nat} (hv : ∀ k, k < m → -5000 ≤ ws.getD k 0 ∧ ws.getD k 0 ≤ 5000) : ∀ j, j ≤ m → -(5000 * (j : Int)) ≤ sm (fun k => ws.getD k 0) j ∧ sm (fun k => ws.getD k 0) j ≤ 5000 * (j : Int)
  | 0, _ => by simp [sm]
  | j + 1, hj => by
    have ih := dsum_bd hv j (by omega)
    have h1 := hv j (by omega)
    rw [sm]
    omega

end


end Go.Proofs.YtffbiflgmlabaaaGreatDoor.C

namespace Go.Proofs.YtffbiflgmlabaaaGreatDoor.C
open Go.RowKit K M
set_option linter.unusedVariables false
set_option linter.unusedSimpArgs false
set_option linter.unusedSectionVars false

theorem neg_bd {ws : List Int} (hv : ∀ k, k < ws.length → -5000 ≤ ws.getD k 0 ∧ ws.getD k 0 ≤ 5000) : ∀ j, j ≤ ws.length → -(5000 * (j : Int)) ≤ sm (fun k => min 0 (ws.getD k 0)) j ∧ sm (fun k => min 0 (ws.getD k 0)) j ≤ 0
  | 0, _ => by simp [sm]
  | j + 1, hj => by
    have ih := neg_bd hv j (by omega)
    have h1 := hv j (by omega)
    rw [sm]
    omega

set_option maxRecDepth 100000 in
set_option maxHeartbeats 1600000 in
theorem negS_any (A : Option Addr) (ws : List Int) (cap : Nat) (w : World) (h : Hid (Ints w w.heap.size A ws)) (hl : ws.length ≤ 1048576) :
    Calls Tryz.prog 27 #[.slice A ws.length cap] w (RetV w (.tuple #[.int .i64 (negPart ws).1, .bool (negPart ws).2])) := by
  have HV := Lib.hid (fun W h1 => vec5S_any A ws cap W (Lib.hid h1) hl)
  unfold negPart
  cases q : isVec5 ws
  · rw [if_neg (by simp)]
    rw [q] at HV
    clear q
    go_enter Tryz.func27, Tryz.ntmps27
    go_wp2_with (go_at_call 52; refine (HV.out _ h.out).mono ?_; rintro e w' ⟨rfl, rfl⟩)
    exact bodyPost_ret (v := .tuple #[.int .i64 0, .bool false]) (by simp [results, Tryz.results27, go_sem]) rfl ⟨rfl, Below.refl _ _⟩
  · rw [if_pos rfl]
    rw [q] at HV
    obtain ⟨h5, hv⟩ := isVec5_yes q
    have HB := Lib.hid (neg_bd hv)
    have HS := Lib.hid (fun k => show sm (fun k => min 0 (ws.getD k 0)) (k + 1) = sm (fun k => min 0 (ws.getD k 0)) k + min 0 (ws.getD k 0) from rfl)
    have hz : sm (fun k => min 0 (ws.getD k 0)) 0 = 0 := rfl
    generalize sm (fun k => min 0 (ws.getD k 0)) = f at *
    obtain ⟨m, hm⟩ : ∃ m, ws.length = m := ⟨_, rfl⟩
    have HM := Lib.hid hm
    rw [hm] at HV HB h5 ⊢
    clear q hv hm hl
    go_enter Tryz.func27, Tryz.ntmps27
    go_wp2_with (go_at_call 52; refine (HV.out _ h.out).mono ?_; rintro e w' ⟨rfl, rfl⟩)
    go_loop [4, 5] (fun t i => ∃ k : Nat, k ≤ m ∧ i = .int .i64 k ∧ t = .int .i64 (f k)) (fun _ i => m - (intOf i).toNat)
    case atStart => exact ⟨0, Nat.zero_le _, rfl, by rw [hz]⟩
    case round =>
      obtain ⟨k, hk, rfl, rfl⟩ := hrel
      clear hz
      by_cases hlt : k < m
      · obtain ⟨b, off, rfl, hbl, hc⟩ := h.out.at_ (k := k) (by rw [HM.out]; exact hlt)
        have hk0 : (0 : Int) ≤ (k : Int) := by omega
        have hkn : (k : Int) < (m : Int) := by omega
        have b1 := HB.out k (by omega)
        have b2 := HB.out (k + 1) (by omega)
        have hs := HS.out k
        rw [hs] at b2
        generalize ws.getD k 0 = x at hc hs b2
        generalize hy : f k = y at *
        by_cases hx : x < 0
        · have hmin : min 0 x = x := by omega
          rw [hmin] at hs b2
          have hw : IntKind.i64.wrap (y + x) = y + x := IntWalk.i64_in _ (by omega)
          have HX := Lib.hid hs
          clear hs hmin hy
          go_wp2
          go_round
          case rel => exact ⟨k + 1, by omega, by go_num, by rw [HX.out]⟩
          case measure => simp [intOf]; omega
        · have hmin : min 0 x = 0 := by omega
          rw [hmin, Int.add_zero] at hs
          have hw : IntKind.i64.wrap y = y := IntWalk.i64_in _ (by omega)
          have HX := Lib.hid hs
          clear hs hmin hy
          go_wp2
          go_round
          case rel => exact ⟨k + 1, by omega, by go_num, by rw [HX.out]⟩
          case measure => simp [intOf]; omega
      · obtain rfl : k = m := by omega
        have hkn : ¬ (k : Int) < (k : Int) := by omega
        go_wp2
        exact bodyPost_ret (v := .tuple #[.int .i64 (f k), .bool true]) (by simp [results, Tryz.results27, go_sem]) rfl ⟨rfl, Below.refl _ _⟩


section

variable (n : Int) (A : Option Addr) (xs : List Int) (cap : Nat) (D : Option Addr) (ws : List Int) (dap : Nat) (w : World) (h : Hid (Ints w w.heap.size A xs)) (g : Hid (Ints w w.heap.size D ws)) (hl : ws.length ≤ 1048576)
include h g hl

omit h g hl in
theorem rank_bd {xs ws : List Int} (hx : ∀ k, k < xs.length → -1000 ≤ xs.getD k 0 ∧ xs.getD k 0 ≤ 1000) (hw : ∀ s, -25000 ≤ weigh ws s ws.length ∧ weigh ws s ws.length ≤ 25000) : ∀ m, m ≤ xs.length → -26000 ≤ rankTo xs ws m ∧ rankTo xs ws m ≤ 100000
  | 0, _ => by simp [rankTo]
  | m + 1, hm => by
    have ih := rank_bd hx hw m (by omega)
    have h1 := hx m (by omega)
    have h2 := hw (xs.length - 1 - m)
    rw [rankTo]
    omega

end


end Go.Proofs.YtffbiflgmlabaaaGreatDoor.C
