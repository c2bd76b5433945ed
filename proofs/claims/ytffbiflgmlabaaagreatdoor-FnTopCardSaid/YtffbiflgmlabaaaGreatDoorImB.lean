/-
  The parts of a set, one after another: the iterator, for a loop whose body knows that it is handed a part.
  The contracts of impl.leastPart, for each closure that it is handed, and of these closures.
  The contracts of what impl.CutFunction, impl.DirectedCut and impl.CoverFunction call.
  The contracts of impl.leastSlack, of the method that it hands on, and of weightOf for base vectors.
  The contracts of impl.leastSlack, isBaseVector and IsBelow.
  The contracts of impl.IsBase, TightSets, CapacityOf, ExchangeCapacity.
-/
import Derived.Test.YtffbiflgmlabaaaGreatDoorPtA
import Derived.Test.YtffbiflgmlabaaaGreatDoorBase
import Derived.Lib.Hide
import Derived.RangeFuncBox
import Derived.RangeFuncLeaves
import Derived.Shelf.Abstract
import Derived.WalkKit
import Derived.OwnWalkIn
import Derived.TacticsInMore
import Derived.LoopNIn
import Derived.LoopIn
import Derived.Maps.AppendAt
import Derived.IntWalk
import Derived.Test.YtffbiflgmlabaaaGreatDoorFunA
import Derived.Test.YtffbiflgmlabaaaGreatDoorVal
import Derived.RangeFuncNested
import Derived.RangeFuncBound
import Derived.Test.YtffbiflgmlabaaaGreatDoorAllM
import Derived.Test.YtffbiflgmlabaaaGreatDoorImA
import Derived.Test.YtffbiflgmlabaaaGreatDoorFnA
import Derived.Test.YtffbiflgmlabaaaGreatDoorSub
import Derived.Deep.RegionWith
import Derived.Deep.RegionHeld3
import Derived.Test.YtffbiflgmlabaaaGreatDoorEls
import Derived.Laws.EntriesVeiled
import Derived.Test.YtffbiflgmlabaaaGreatDoorSubI
namespace Go.Proofs.YtffbiflgmlabaaaGreatDoor.C
open Go.RowKit Go.Shelf K M
set_option linter.unusedVariables false
set_option linter.unusedSimpArgs false
attribute [local go_sem] Oper.semAt_some

/-- A round keeps the iterator's set. -/
def Kept (sb S : Nat) (W W' : World) : Prop := W.cell? ⟨sb, 0, none⟩ = some (.int .i64 (S : Int)) → W'.cell? ⟨sb, 0, none⟩ = some (.int .i64 (S : Int))
theorem kept_t {sb S : Nat} {A B C : World} (h : Kept sb S A B) (k : Kept sb S B C) : Kept sb S A C := fun hc => k (h hc)
theorem kept_b {sb S : Nat} (W : World) (l : Nat) (o o' : Obj) (h : W.heap[l]? = some o) (ho : o.isCells = false) : Kept sb S W (W.putObj l o') := fun hc => cell_kept hc (grownBy_putObj' W l o') fun r e => by cases e; exact ⟨o, h, ho⟩

set_option maxRecDepth 100000 in
set_option maxHeartbeats 1000000 in
/-- The iterator over the parts of S, for every loop body that keeps the set; each round is handed a part. -/
theorem partsP_in (F : Fence) (n : Nat) (hF : F.fn 114) (hro : F.round = none) (hn : 1 ≤ n) (l sb S : Nat) (hS : S < 32) (J Jx : List (Part S) → World → Prop)
    (hY : ∀ pre (x : Part S) W, J pre W → pre.length < 2 ^ ones S → YieldAt F (n - 1) Tryz.prog l #[.int .i64 x.1] W fun e W' =>
      (e = .returned (.bool true) ∧ J (pre ++ [x]) W' ∧ Kept sb S W W') ∨ (e = .returned (.bool false) ∧ Jx (pre ++ [x]) W'))
    (W : World) (hc : W.cell? ⟨sb, 0, none⟩ = some (.int .i64 S)) (h0 : J [] W) :
    CallsIn F n Tryz.prog 114 #[.func (.yield l) #[] #[], .pointer (some ⟨sb, 0, none⟩)] W fun e W' => (∃ v, e = .returned v) ∧
      ((∃ ys, ys = (List.range (2 ^ ones S)).map (partP S) ∧ J ys W') ∨ (∃ pre, pre <+: (List.range (2 ^ ones S)).map (partP S) ∧ Jx pre W')) := by
  have hp32 := ones_pow hS
  have hp0 : 0 < 2 ^ ones S := Nat.two_pow_pos _
  obtain ⟨m, hm⟩ : ∃ m, 2 ^ ones S = m := ⟨_, rfl⟩
  have HLE := Lib.hid (fun i (hi : i < 32) => part_le S hS i hi)
  have HUP := Lib.hid (fun i (hi : i + 1 < m) => part_up S hS i (by omega) (by rw [hm]; exact hi))
  have HNX := Lib.hid (fun i (hi : i + 1 < m) => part_next S hS i (by omega) (by rw [hm]; exact hi))
  have HNE := Lib.hid (fun i (hi : i + 1 < m) => part_ne hS (by rw [hm]; exact hi))
  have HEN := Lib.hid (fun i (hi : i + 1 = m) => part_end hS (by rw [hm]; exact hi))
  have HQ := Lib.hid (fun i (hi : i < m) => partP_val hS (i := i) (by omega))
  have hz := part_zero S
  rw [hm] at hY hp32 hp0 ⊢
  generalize partP S = q at HQ ⊢
  generalize partN S = f at *
  clear hm
  refine callsIn_of_wp Tryz.func114 rfl hF ?_ hro
  simp only [Tryz.ntmps114, List.size_toArray, List.length_cons, List.length_nil, Nat.reduceAdd, Nat.reduceSub, Array.replicate_succ, Array.replicate_zero, List.push_toArray, List.append_toArray, List.nil_append, List.cons_append]
  gi_wp2
  gi_loopw [3] (fun p wr => ∃ (i : Nat), p = .int .i64 (f i : Nat) ∧ i < m ∧ wr.cell? ⟨sb, 0, none⟩ = some (.int .i64 S) ∧ J ((List.range i).map q) wr) (fun p _ => S - (intOf p).toNat)
  case atStart => exact ⟨0, by rw [hz]; rfl, hp0, hc, h0⟩
  case round =>
    obtain ⟨i, rfl, hi, hcw, hJ⟩ := hrel
    have hts : (List.range (i + 1)).map q = (List.range i).map q ++ [q i] := by rw [List.range_succ, List.map_append]; rfl
    obtain ⟨fn, tmps, assign, body, hy, hR⟩ := hY _ (q i) wr hJ (by rw [List.length_map, List.length_range]; exact hi)
    rw [← hts] at hR
    rw [HQ.out i hi] at hy
    by_cases hlast : i + 1 = m
    · have he := Lib.hid (HEN.out i hlast)
      gi_wp2
      refine hR.mono ?_
      rintro e W3 (⟨rfl, hJ3, hk3⟩ | ⟨rfl, hJx3⟩)
      · have hc3 : W3.cell? ⟨sb, 0, none⟩ = some (.int .i64 S) := hk3 hcw
        have hes : ((f i : Int) == (S : Int)) = true := by rw [he.out]; exact beq_self_eq_true _
        gi_wp2
        go_end0
        exact ⟨⟨_, rfl⟩, .inl ⟨_, by rw [← hlast], hJ3⟩⟩
      · gi_wp2
        go_end0
        exact ⟨⟨_, rfl⟩, .inr ⟨_, by rw [← hlast]; exact List.prefix_rfl, hJx3⟩⟩
    · have hlt : i + 1 < m := by omega
      have hne := HNE.out i hlt
      have hnx : bits .and .i64 (wrap64 (bits .or .i64 (f i : Int) (bits .xor .i64 (if IntKind.i64.signed = true then -1 else 9223372036854775807) (S : Int)) + 1)) (S : Int) = ((f (i + 1) : Nat) : Int) := by
        have h := HNX.out i hlt
        rw [IntWalk.i64_left] at h
        rw [if_pos (show IntKind.i64.signed = true from rfl)]
        exact h
      have hup := HUP.out i hlt
      have hle := HLE.out (i + 1) (by omega)
      have hpre : (List.range (i + 1)).map q <+: (List.range m).map q := by
        have ht : ((List.range m).map q).take (i + 1) = (List.range (i + 1)).map q := by
          rw [← List.map_take, List.take_range, Nat.min_eq_left (by omega)]
        rw [← ht]
        exact List.take_prefix _ _
      gi_wp2
      refine hR.mono ?_
      rintro e W3 (⟨rfl, hJ3, hk3⟩ | ⟨rfl, hJx3⟩)
      · have hc3 : W3.cell? ⟨sb, 0, none⟩ = some (.int .i64 S) := hk3 hcw
        gi_wp2
        go_roundw
        case rel => exact ⟨i + 1, rfl, hlt, hc3, hJ3⟩
        case measure => simp [intOf]; omega
      · gi_wp2
        go_end0
        exact ⟨⟨_, rfl⟩, .inr ⟨_, hpre, hJx3⟩⟩

theorem partsP_stops (F : Fence) (n : Nat) (hF : F.fn 114) (hro : F.round = none) (hn : 1 ≤ n) (sb S : Nat) (hS : S < 32) (w : World) (hw : sb < w.heap.size) (hc : w.cell? ⟨sb, 0, none⟩ = some (.int .i64 S)) :
    SeqStopsK F n Tryz.prog 114 #[.pointer (some ⟨sb, 0, none⟩)] (fun x : Part S => #[Value.int .i64 x.1]) (Kept sb S) (fun ys => ys = (List.range (2 ^ ones S)).map (partP S)) (fun pre => pre <+: (List.range (2 ^ ones S)).map (partP S)) (2 ^ ones S) w := fun l J Jx W hW _ _ hY h0 =>
  partsP_in F n hF hro hn l sb S hS J Jx hY W ((hW.cell (p := ⟨sb, 0, none⟩) hw).trans hc) h0

theorem partsF_any (S : Int) (w : World) :
    Calls Tryz.prog 103 #[.int .i64 S] w fun e w' => e = .returned (.func (.func 114) #[] #[.pointer (some ⟨w.heap.size, 0, none⟩)]) ∧ w' = w.alloc (.cells #[.int .i64 S] 45) := by
  go_enter Tryz.func103, Tryz.ntmps103
  go_wp2
  go_ret
  exact ⟨rfl, rfl⟩


end Go.Proofs.YtffbiflgmlabaaaGreatDoor.C

namespace Go.Proofs.YtffbiflgmlabaaaGreatDoor.C
open Go.RowKit Go.Shelf K M
set_option linter.unusedVariables false
set_option linter.unusedSimpArgs false
attribute [local go_sem] Oper.semAt_some

theorem KeepsOthers.drewN (W : World) (n : Nat) : KeepsOthers W (W.drewN n) := ⟨Nat.le_refl _, fun _ _ h _ => h⟩

theorem gives_at {P : Program} {f : FuncId} {args : Array Value} {w : World} {n : Nat} {x : Int} (h : Calls P f args (w.drewN n) (Gives (w.drewN n) x)) :
    Calls P f args (w.drewN n) fun e w'' => e = .returned (.int .i64 x) ∧ ∃ m, w'' = w.drewN m :=
  h.mono fun _ _ ⟨he, q, hq⟩ => ⟨he, n + q, by rw [← hq]; simp [World.drewN, Nat.add_assoc]⟩


end Go.Proofs.YtffbiflgmlabaaaGreatDoor.C

namespace Go.Proofs.YtffbiflgmlabaaaGreatDoor.C
open Go.RowKit K M
set_option linter.unusedVariables false
set_option linter.unusedSimpArgs false

theorem xor_val (S P : Nat) (hS : S < 4294967296) (hP : P < 4294967296) : bits .xor .i64 (S : Int) (P : Int) = ((S ^^^ P : Nat) : Int) := by
  have hx : S ^^^ P < 2 ^ 32 := Nat.xor_lt_two_pow (by omega) (by omega)
  have ofI : ∀ a : Nat, a < 9223372036854775808 → (BitVec.ofInt 64 (a : Int)).toNat = a := fun a ha => by
    rw [BitVec.ofInt_natCast, BitVec.toNat_ofNat]; exact Nat.mod_eq_of_lt (by omega)
  show IntKind.i64.wrap ((BitVec.ofInt 64 (S : Int) ^^^ BitVec.ofInt 64 (P : Int)).toNat : Int) = _
  rw [BitVec.toNat_xor, ofI S (by omega), ofI P (by omega), IntKind.wrap_i64]
  omega

theorem and_val (S P : Nat) (hS : S < 4294967296) (hP : P < 4294967296) : bits .and .i64 (S : Int) (P : Int) = ((S &&& P : Nat) : Int) := by
  have hx : S &&& P < 2 ^ 32 := Nat.and_lt_two_pow _ (by omega)
  have ofI : ∀ a : Nat, a < 9223372036854775808 → (BitVec.ofInt 64 (a : Int)).toNat = a := fun a ha => by
    rw [BitVec.ofInt_natCast, BitVec.toNat_ofNat]; exact Nat.mod_eq_of_lt (by omega)
  show IntKind.i64.wrap ((BitVec.ofInt 64 (S : Int) &&& BitVec.ofInt 64 (P : Int)).toNat : Int) = _
  rw [BitVec.toNat_and, ofI S (by omega), ofI P (by omega), IntKind.wrap_i64]
  omega

theorem compl_any (S N : Nat) (w : World) (hS : S < 4294967296) (h5 : N ≤ 5) : Calls Tryz.prog 41 #[.int .i64 S, .int .i64 N] w fun e w' => e = .returned (.int .i64 ((S ^^^ (2 ^ N - 1) : Nat) : Int)) ∧ w = w' := by
  obtain ⟨p, hp⟩ : ∃ p, p = 2 ^ N := ⟨_, rfl⟩
  have hp32 : p ≤ 32 := by have h := Nat.pow_le_pow_right (n := 2) (by decide) h5; omega
  have hp1 : 1 ≤ p := by rw [hp]; exact Nat.two_pow_pos N
  have hsh : wrap64 (2 ^ N) = (p : Int) := by
    have hsh := shl_one (n := (N : Int)) (m := p) (by omega) (by omega) (by rw [Int.toNat_natCast]; exact hp)
    rwa [Int.toNat_natCast] at hsh
  have hx := xor_val S (p - 1) hS (by omega)
  rw [show ((p - 1 : Nat) : Int) = (p : Int) - 1 by omega] at hx
  rw [← hp]
  generalize S ^^^ (p - 1) = q at hx ⊢
  have hN : (0 : Int) ≤ (N : Int) := by omega
  clear hp
  go_enter Tryz.func41, Tryz.ntmps41
  go_wp2
  go_ret
  exact ⟨rfl, rfl⟩

end Go.Proofs.YtffbiflgmlabaaaGreatDoor.C

namespace Go.Proofs.YtffbiflgmlabaaaGreatDoor.C
open Go.RowKit Go.Shelf K M
set_option linter.unusedVariables false
set_option linter.unusedSimpArgs false
attribute [local go_sem] Oper.semAt_some

set_option maxRecDepth 100000 in
set_option maxHeartbeats 1600000 in
theorem weigh5I_any (A : Option Addr) (ws : List Int) (cap S : Nat) (w : World) (h : Hid (Ints w w.heap.size A ws)) (hv : ∀ k, k < ws.length → -5000 ≤ ws.getD k 0 ∧ ws.getD k 0 ≤ 5000) (hm : ws.length ≤ 5) (hS : S < 2 ^ ws.length) (hb : Hid (Brujn w)) :
    Calls Tryz.prog 42 #[.slice A ws.length cap, .int .i64 S] w (RetV w (.int .i64 (weigh ws S ws.length))) := by
  have hS32 : S < 1024 := Nat.lt_of_lt_of_le hS (Nat.le_trans (Nat.pow_le_pow_right (by decide) hm) (by decide))
  have HT := Lib.hid (weigh_els ws S ws.length hS (by omega))
  have hat := Lib.hid (fun k (hk : k < (els S).length) => els_at S ws.length hS hk)
  have hdr := Lib.hid (fun k (hk : k < (els S).length) => wsum_drop ws (els S) hk)
  have hlen := els_len S
  have HE := Lib.hid (listI_any S w hS32 hb)
  obtain ⟨m, hxm⟩ : ∃ m, ws.length = m := ⟨_, rfl⟩
  rw [hxm] at hm HT hat hS ⊢
  generalize els S = es at *
  obtain ⟨l, hel⟩ : ∃ l, es.length = l := ⟨_, rfl⟩
  have HW := Lib.hid (St.start w)
  have HX := Lib.hid hxm
  have HV := Lib.hid hv
  have HL := Lib.hid hel
  rw [hel] at hlen hat hdr
  clear hv hxm hS hS32
  go_enter Tryz.func42, Tryz.ntmps42
  go_wp2_with fail
  refine HE.out.mono ?_
  rintro e w1 ⟨V, cc, rfl, ho, hb1⟩
  rw [hel]
  rw [hel] at ho
  have HS1 := Lib.hid (HW.out.newI hb1 ho)
  rw [hel] at HS1
  clear ho hb1 hel
  go_wp2
  go_loopw [5, 11] (fun y i wr => ∃ (k : Nat) (t : Int), i = .int .i64 k ∧ k ≤ l ∧ y = .int .i64 t ∧ Hid (-5000 * (k : Int) ≤ t ∧ t ≤ 5000 * (k : Int)) ∧ Hid (t + wsum ws (es.drop k) = weigh ws S m) ∧ St w wr [il (.slice V l cc) l es]) (fun _ i _ => l - (intOf i).toNat)
  case atStart => exact ⟨0, 0, rfl, Nat.zero_le _, rfl, Lib.hid (by omega), Lib.hid (by rw [List.drop_zero, HT.out]; omega), HS1.out⟩
  case round =>
    obtain ⟨k, t, rfl, hk, rfl, hbd, hsum, hS⟩ := hrel
    have HS := Lib.hid hS
    clear hS
    by_cases hlt : k < l
    · obtain ⟨b, off, rfl, hbl, hc0⟩ := (HS.out.ints (i := 0) rfl).at_ (k := k) (by rw [HL.out]; exact hlt)
      obtain ⟨g1, g2⟩ := hat.out k hlt
      have hd := hdr.out k hlt
      obtain ⟨E, hE⟩ : ∃ E : Nat, es.getD k 0 = (E : Int) := ⟨_, (Int.toNat_of_nonneg g1).symm⟩
      rw [hE] at hc0 g1 g2 hd
      rw [Int.toNat_natCast] at hd
      have hEm : E < m := by omega
      obtain ⟨b', off', rfl, hbl', hc'⟩ := h.out.at_ (k := E) (by rw [HX.out]; exact hEm)
      have d1 := (HS.out.base.cell (p := ⟨b', off' + E, none⟩) hbl').trans hc'
      obtain ⟨v1, v2⟩ := HV.out E (by rw [HX.out]; exact hEm)
      obtain ⟨t1, t2⟩ := hbd.out
      have hs := hsum.out
      rw [hd] at hs
      generalize ws.getD E 0 = x at d1 v1 v2 hs
      have hw : IntKind.i64.wrap (t + x) = t + x := IntWalk.i64_in _ (by omega)
      have HB := Lib.hid (show -5000 * ((k + 1 : Nat) : Int) ≤ t + x ∧ t + x ≤ 5000 * ((k + 1 : Nat) : Int) by omega)
      have HU := Lib.hid (show (t + x) + wsum ws (es.drop (k + 1)) = weigh ws S m by omega)
      have hk0 : (0 : Int) ≤ (k : Int) := by omega
      have hkl : (k : Int) < (l : Int) := by omega
      have hE0 : (0 : Int) ≤ (E : Int) := by omega
      have hEi : (E : Int) < (m : Int) := by omega
      clear hc' hs hd t1 t2 hE
      go_wp2
      go_roundw
      case rel => exact ⟨k + 1, t + x, by go_num, by omega, rfl, HB, HU, HS.out⟩
      case measure => simp [intOf]; omega
    · obtain rfl : k = l := by omega
      have hkl : ¬ (k : Int) < (k : Int) := by omega
      have hfin := hsum.out
      rw [List.drop_of_length_le (by rw [HL.out]; exact Nat.le_refl _)] at hfin
      have HF := Lib.hid (show t = weigh ws S m by simpa [wsum] using hfin)
      clear hfin
      go_wp2
      go_ret
      exact ⟨by rw [HF.out]; rfl, HS.out.base⟩

theorem or_val (S P : Nat) (hS : S < 4294967296) (hP : P < 4294967296) : bits .or .i64 (S : Int) (P : Int) = ((S ||| P : Nat) : Int) := by
  have hx : S ||| P < 2 ^ 32 := Nat.or_lt_two_pow (by omega) (by omega)
  have ofI : ∀ a : Nat, a < 9223372036854775808 → (BitVec.ofInt 64 (a : Int)).toNat = a := fun a ha => by
    rw [BitVec.ofInt_natCast, BitVec.toNat_ofNat]; exact Nat.mod_eq_of_lt (by omega)
  show IntKind.i64.wrap ((BitVec.ofInt 64 (S : Int) ||| BitVec.ofInt 64 (P : Int)).toNat : Int) = _
  rw [BitVec.toNat_or, ofI S (by omega), ofI P (by omega), IntKind.wrap_i64]
  omega

set_option maxRecDepth 100000 in
set_option maxHeartbeats 1600000 in
/-- How far the weight of a set lies below its value. -/
theorem slackC (n : Int) (A : Option Addr) (xs : List Int) (cap : Nat) (D : Option Addr) (ws : List Int) (dap c s q : Nat) (w : World) (h : Hid (Ints w w.heap.size A xs)) (g : Hid (Ints w w.heap.size D ws)) (hbr : Hid (Brujn w))
    (h5 : ws.length ≤ 5) (hv : ∀ k, k < ws.length → -5000 ≤ ws.getD k 0 ∧ ws.getD k 0 ≤ 5000) (hc : c < 32) (hs : s < 32) (hq : c ||| s = q) (hqx : q < xs.length) (hqw : q < 2 ^ ws.length) (x1 : -1000 ≤ xs.getD q 0) (x2 : xs.getD q 0 ≤ 1000) :
    Calls Tryz.prog 83 #[.agg #[.int .i64 n, .slice A xs.length cap, .slice D ws.length dap, .int .i64 c], .int .i64 s] w (RetV w (.int .i64 (xs.getD q 0 - weigh ws q ws.length))) := by
  have HW := Lib.hid (St.start w)
  have HC := Lib.hid (fun W h1 h2 => weigh5I_any D ws dap q W (Lib.hid h1) hv h5 hqw (Lib.hid h2))
  have hor : bits .or .i64 (c : Int) (s : Int) = (q : Int) := by rw [or_val c s (by omega) (by omega), hq]
  have hbd := weigh5_bd hv q ws.length (Nat.le_refl _)
  obtain ⟨b, off, rfl, hbl, hco⟩ := h.out.at_ hqx
  have y1 : -25000 ≤ weigh ws q ws.length := by omega
  have y2 : weigh ws q ws.length ≤ 25000 := by omega
  generalize weigh ws q ws.length = y at HC y1 y2 ⊢
  generalize xs.getD q 0 = x at hco x1 x2 ⊢
  have hw : IntKind.i64.wrap (x - y) = x - y := IntWalk.i64_in _ (by omega)
  obtain ⟨p, hp⟩ : ∃ p, xs.length = p := ⟨_, rfl⟩
  obtain ⟨m, hm⟩ : ∃ m, ws.length = m := ⟨_, rfl⟩
  rw [hp] at hqx ⊢
  rw [hm] at HC ⊢
  have hq0 : (0 : Int) ≤ (q : Int) := by omega
  have hqi : (q : Int) < (p : Int) := by omega
  clear hp hm hqw hv hbd hq x1 x2 y1 y2
  go_enter Tryz.func83, Tryz.ntmps83
  go_wp2
  have HS := Lib.hid (HW.out.alloc [.int .i64 n, .slice (some ⟨b, off, none⟩) p cap, .slice D m dap, .int .i64 c] 95)
  have hbl2 : b < (w.alloc (.cells #[.int .i64 n, .slice (some ⟨b, off, none⟩) p cap, .slice D m dap, .int .i64 c] 95)).heap.size := by rw [World.size_alloc]; omega
  generalize w.alloc (.cells #[.int .i64 n, .slice (some ⟨b, off, none⟩) p cap, .slice D m dap, .int .i64 c] 95) = w1 at HS hbl2 ⊢
  obtain ⟨b0, -⟩ := HS.out.box (i := 0) rfl
  have b01 := b0 1 _ rfl
  have b02 := b0 2 _ rfl
  have hc1 := (HS.out.base.cell (p := ⟨b, off + q, none⟩) hbl).trans hco
  have hcl := (HS.out.lt (i := 0) rfl).2
  clear b0 hco
  go_region_held3 (fun w' => w'.cell? ⟨w.heap.size, 1, none⟩ = some (.slice (some ⟨b, off, none⟩) p cap) ∧ w'.cell? ⟨w.heap.size, 2, none⟩ = some (.slice D m dap) ∧ w'.cell? ⟨b, off + q, none⟩ = some (.int .i64 x)) (first | (refine ⟨?_, ?_, ?_⟩ <;> assumption) | assumption | go_keep)
    ((go_at_call 42; refine (HC.out _ ?_ ?_).mono ?_; (first | exact (g.out.below HS.out.base).mono HS.out.size | exact (g.out.below HS.out.drew.base).mono HS.out.drew.size); (first | exact brujn_on hbr.out HS.out.base | exact brujn_on hbr.out HS.out.drew.base); rintro e w2 ⟨rfl, hb2⟩; have HB2 := Lib.hid (HS.out.drew.below hb2); have hw1' := (hb2.cell (p := ⟨w.heap.size, 1, none⟩) hcl).trans b01; have hw2' := (hb2.cell (p := ⟨w.heap.size, 2, none⟩) hcl).trans b02; have hc' := (hb2.cell (p := ⟨b, off + q, none⟩) hbl2).trans hc1; clear hb2))
  go_wp2
  go_ret
  exact ⟨rfl, HB2.out.base⟩

theorem below_keeps {W W' : World} (h : Below W.heap.size W W') : KeepsOthers W W' := ⟨h.size, fun k o hk _ => (h.block k (Array.getElem?_eq_some_iff.1 hk).1).trans hk⟩
theorem cell_lt {W : World} {sb : Nat} {v : Value} (hc : W.cell? ⟨sb, 0, none⟩ = some v) : sb < W.heap.size := by
  rcases Nat.lt_or_ge sb W.heap.size with h | h
  · exact h
  · rw [World.cell?, Array.getElem?_eq_none h] at hc
    cases hc
theorem below_boxed {W W' : World} {B : Nat} {t : TypeId} {v : Value} (h : Below W.heap.size W W') (b : Boxed W B t v) : Boxed W' B t v := (h.block B b.lt).trans b

set_option maxRecDepth 100000 in
set_option maxHeartbeats 4000000 in
/-- The least part of S for a closure that makes memory, and its value. -/
theorem least_slack_any (S : Nat) (hS : S < 32) (v : Nat → Int) (p : Value) (w : World)
    (hv : Hid (∀ x, x &&& S = x → ∀ W, Below w.heap.size w W → Calls Tryz.prog 83 #[p, .int .i64 (x : Nat)] W (RetV W (.int .i64 (v x))))) :
    Calls Tryz.prog 82 #[.int .i64 S, .func (.func 83) #[p] #[]] w fun e W' => e = .returned (.tuple #[.int .i64 (leastTo v S S : Nat), .int .i64 (v (leastTo v S S))]) ∧ Below w.heap.size w W' := by
  have HF := Lib.hid (best_partsP v hS)
  have HX := Lib.hid (best_snoc v)
  have HB0 := Lib.hid (best_nil v)
  have HV0 := Lib.hid (hv.out 0 (by simp))
  have HP := Lib.hid (fun F n hF hro hn sb W hw hc => partsP_stops F n hF hro hn sb S hS W hw hc)
  generalize bestOf v = bo at HF HX HB0
  generalize leastTo v S S = r at HF ⊢
  refine (callsIn_wide (n := 4)).1 ?_
  refine callsIn_of_wp_marks Tryz.func82 rfl trivial ?_ rfl
  simp only [Tryz.ntmps82, List.size_toArray, List.length_cons, List.length_nil, Nat.reduceAdd, Nat.reduceSub, Array.replicate_succ, Array.replicate_zero, List.push_toArray, List.append_toArray, List.nil_append, List.cons_append]
  gi_wp2_with (refine ⟨trivial, ?_⟩; gi_at_call 83; refine (callsIn_wide.2 (HV0.out _ ((Below.refl _ _).alloc (Nat.le_refl _) _))).mono ?_; rintro e w1 ⟨rfl, hb1⟩)
  have a0 : Boxed w1 w.heap.size 93 (.func (.func 83) #[p] #[]) := below_boxed hb1 (Boxed.new w _ _)
  have HB1 := Lib.hid (((Below.refl _ w).alloc (Nat.le_refl _) _).trans (hb1.mono (by simp)))
  have HA0 := Lib.hid a0
  clear hb1 a0
  gi_wp2_with (refine ⟨trivial, ?_⟩; gi_at_call 103; refine (callsIn_wide.2 (partsF_any _ _)).mono ?_; rintro e w2 ⟨rfl, rfl⟩)
  have b0 : Boxed ((w1.alloc (.cells #[.int .i64 0] 45)).alloc (.cells #[.int .i64 (v 0)] 3)) w.heap.size 93 (.func (.func 83) #[p] #[]) := (HA0.out.alloc _).alloc _
  have b1 : Boxed ((w1.alloc (.cells #[.int .i64 0] 45)).alloc (.cells #[.int .i64 (v 0)] 3)) w1.heap.size 45 (.int .i64 0) := (Boxed.new w1 _ _).alloc _
  have b2 : Boxed ((w1.alloc (.cells #[.int .i64 0] 45)).alloc (.cells #[.int .i64 (v 0)] 3)) (w1.heap.size + 1) 3 (.int .i64 (v 0)) := by
    have h := Boxed.new (w1.alloc (.cells #[.int .i64 0] 45)) 3 (.int .i64 (v 0))
    rw [World.size_alloc] at h
    exact h
  have hB : Below w.heap.size w ((w1.alloc (.cells #[.int .i64 0] 45)).alloc (.cells #[.int .i64 (v 0)] 3)) := (HB1.out.alloc HB1.out.size _).alloc (by rw [World.size_alloc]; have := HB1.out.size; omega) _
  have hlt1 : w.heap.size < w1.heap.size := HA0.out.lt
  have hsz : ((w1.alloc (.cells #[.int .i64 0] 45)).alloc (.cells #[.int .i64 (v 0)] 3)).heap.size = w1.heap.size + 1 + 1 := by rw [World.size_alloc, World.size_alloc]
  generalize ((w1.alloc (.cells #[.int .i64 0] 45)).alloc (.cells #[.int .i64 (v 0)] 3)) = W0 at b0 b1 b2 hB hsz ⊢
  generalize w1.heap.size = B at *
  clear HA0 HB1
  refine wpIn_rangeFunc_ownG rfl (by omega) (gf := 114) (lb := #[.pointer (some ⟨B + 1 + 1, 0, none⟩)]) rfl trivial (enters_of Tryz.func114 (by kernel_rfl) rfl)
    (HP.out Fence.wide _ trivial rfl (by omega) (B + 1 + 1) _ (by simp [hsz]) (by rw [← hsz]; simp)) kept_t (fun W l o o' _ h ho _ => kept_b W l o o' h ho) (Below.refl _ _) (fun _ => rfl)
    (fun pre W => (Boxed W w.heap.size 93 (.func (.func 83) #[p] #[]) ∧ Boxed W B 45 (.int .i64 (bo (pre.map Subtype.val) : Nat)) ∧ Boxed W (B + 1) 3 (.int .i64 (v (bo (pre.map Subtype.val))))) ∧ Below w.heap.size w W)
    (fun _ _ _ => False)
    (OwnFrom.and (OwnFrom.and (Own.from (boxed_own _ _ _) _) (OwnFrom.and (Own.from (boxed_own _ _ _) _) (Own.from (boxed_own _ _ _) _))) (ownFrom_below (Nat.le_refl _) (by simp; omega)))
    (fun _ _ _ _ _ hs _ _ => hs)
    ⟨⟨b0.alloc _, by simp only [List.map_nil, HB0.out]; exact b1.alloc _, by simp only [List.map_nil, HB0.out]; exact b2.alloc _⟩, hB.alloc hB.size _⟩
    (fun x => { tmps := #[.int .i64 S, (.func (.func 83) #[p] #[]), undef, .pointer (some ⟨w.heap.size, 0, none⟩), .int .i64 0, .int .i64 0, .pointer (some ⟨B, 0, none⟩), .pointer (some ⟨B + 1, 0, none⟩), .int .i64 x.1, undef, (.func (.func 83) #[p] #[]), .int .i64 (v 0), .int .i64 S, .func (.func 114) #[] #[.pointer (some ⟨B + 1 + 1, 0, none⟩)], .int .i64 x.1, undef, undef, undef, undef, undef, undef, undef, undef, undef, undef], defers := [] }) ?assign ?body ?done ?stop
  case assign =>
    intro l x W K hK
    gi_wp2
    exact hK
  case body =>
    rintro l pre x W ⟨⟨c0, c1, c2⟩, hB⟩ hlt
    obtain ⟨x, hx⟩ := x
    have HC := Lib.hid (fun W hW => hv.out x hx W hW)
    have hs := HX.out (pre.map Subtype.val) x
    have hm : (pre ++ [(⟨x, hx⟩ : Part S)]).map Subtype.val = pre.map Subtype.val ++ [x] := by simp
    generalize hb : bo (pre.map Subtype.val) = b at *
    have HM := Lib.hid (hm ▸ hs : bo ((pre ++ [(⟨x, hx⟩ : Part S)]).map Subtype.val) = if v x < v b then x else b)
    have d0 := c0.cell
    have hd : 1 ≤ 4 - 1 - 1 := by omega
    have HC0 := Lib.hid c0
    have HC1 := Lib.hid c1
    have HC2 := Lib.hid c2
    have HB := Lib.hid hB
    clear c0 c1 c2 hB b0 b1 b2 hs hm
    gi_wp2_with fail
    refine ⟨trivial, ?_⟩
    gi_at_call 83
    refine (CallsIn.inRound l (callsIn_wide.2 (HC.out _ HB.out))).mono ?_
    rintro e w2 ⟨rfl, hb2⟩
    have HD0 := Lib.hid (below_boxed hb2 HC0.out)
    have HD1 := Lib.hid (below_boxed hb2 HC1.out)
    have HD2 := Lib.hid (below_boxed hb2 HC2.out)
    have HK := Lib.hid (below_keeps hb2)
    have HBB := Lib.hid (HB.out.trans (hb2.mono HB.out.size))
    have HKE := Lib.hid (fun (hc : W.cell? ⟨B + 1 + 1, 0, none⟩ = some (.int .i64 (S : Int))) => (hb2.cell (p := ⟨B + 1 + 1, 0, none⟩) (cell_lt hc)).trans hc)
    have e1 := HD1.out.cell
    have e2 := HD2.out.cell
    have f1 := HD1.out.frozen
    have f2 := HD2.out.frozen
    clear hb2 d0
    by_cases hlt2 : v x < v b
    · gi_wp2
      refine ⟨(HK.out.trans ((KeepsOthers.setCell _ _ _).trans (KeepsOthers.setCell _ _ _))).from _, fun hc => ?_, ⟨⟨?_, ?_, ?_⟩, ?_⟩⟩
      · exact (World.cell?_setCell_other (a := ⟨B + 1, 0, none⟩) (b := ⟨B + 1 + 1, 0, none⟩) _ _ (fun e => by injection e; omega)).trans ((World.cell?_setCell_other (a := ⟨B, 0, none⟩) (b := ⟨B + 1 + 1, 0, none⟩) _ _ (fun e => by injection e; omega)).trans (HKE.out hc))
      · exact (HD0.out.other (by omega) _).other (by omega) _
      · rw [HM.out, if_pos hlt2]
        exact (HD1.out.set _).other (by omega) _
      · rw [HM.out, if_pos hlt2]
        exact (HD2.out.other (by omega) _).set _
      · exact (HBB.out.setCell (p := ⟨B, 0, none⟩) (by simp; omega) _).setCell (p := ⟨B + 1, 0, none⟩) (by simp; omega) _
    · gi_wp2
      refine ⟨HK.out.from _, fun hc => HKE.out hc, ⟨⟨HD0.out, ?_, ?_⟩, HBB.out⟩⟩
      · rw [HM.out, if_neg (by omega)]
        exact HD1.out
      · rw [HM.out, if_neg (by omega)]
        exact HD2.out
  case done =>
    rintro D ys W hD rfl ⟨⟨c0, c1, c2⟩, hB⟩ hK
    rw [HF.out] at c1 c2
    have d1 := c1.cell
    have d2 := c2.cell
    clear c0 c1 c2 b0 b1 b2
    have hD' : D < W.heap.size := (Array.getElem?_eq_some_iff.1 hK).1
    gi_wp2
    gi_region
    all_goals gi_wp2
    refine ⟨by simp, .inl ⟨_, _, rfl, run_takeDeferred (show W.drew.heap[D]? = _ from hK), ?_⟩⟩
    refine ⟨_, ?_, rfl, hB.drew.trans (belowK_b (w := w) (Nat.le_refl _) W.drew D _ _ (by simp at hD; omega) hK rfl rfl)⟩
    simp [results, Tryz.results82, go_sem]
  case stop =>
    rintro D c pre W _ _ h _
    exact h.elim


end Go.Proofs.YtffbiflgmlabaaaGreatDoor.C

namespace Go.Proofs.YtffbiflgmlabaaaGreatDoor.C
open Go.RowKit K M
set_option linter.unusedVariables false
set_option linter.unusedSimpArgs false
set_option linter.unusedSectionVars false

theorem ground_parts {n : Int} {xs : List Int} (h : isGround n xs = true) : 0 ≤ n ∧ n ≤ 5 ∧ xs.length = 2 ^ n.toNat ∧ ∀ k, k < xs.length → -1000 ≤ xs.getD k 0 ∧ xs.getD k 0 ≤ 1000 := isFn_yes (ground_fn h)


section

variable (n : Int) (A : Option Addr) (xs : List Int) (cap : Nat) (D : Option Addr) (ws : List Int) (dap : Nat) (w : World) (h : Hid (Ints w w.heap.size A xs)) (g : Hid (Ints w w.heap.size D ws)) (hbr : Hid (Brujn w))
include h g hbr

set_option maxRecDepth 100000 in
set_option maxHeartbeats 1600000 in
/-- The least difference of the sets with the elements of c and without those of d. -/
theorem leastSlackI_any (q1 : isGround n xs = true) (q2 : (ws.length : Int) = n) (q3 : isVec5 ws = true) (c d F : Nat) (hc : c < 32) (hd : d < 32) (hF : (c ||| d) ^^^ (2 ^ n.toNat - 1) = F) (hF32 : F < 32) (hin : ∀ x, x &&& F = x → (c ||| x) < 2 ^ n.toNat) :
    Calls Tryz.prog 62 #[.agg #[.int .i64 n, .slice A xs.length cap], .slice D ws.length dap, .int .i64 c, .int .i64 d] w (RetV w (.int .i64 (slackV xs ws c (leastTo (slackV xs ws c) F F)))) := by
  have HW := Lib.hid (St.start w)
  obtain ⟨h0, h5, hl, hvv⟩ := ground_parts q1
  obtain ⟨h6, hv⟩ := isVec5_yes q3
  obtain ⟨N, rfl⟩ := Int.eq_ofNat_of_zero_le h0
  rw [Int.toNat_natCast] at hl hF hin
  have hwN : ws.length = N := by omega
  have hor : bits .or .i64 (c : Int) (d : Int) = ((c ||| d : Nat) : Int) := or_val c d (by omega) (by omega)
  have hcd : c ||| d < 32 := Nat.or_lt_two_pow (n := 5) (by omega) (by omega)
  have HK := Lib.hid (fun W => compl_any (c ||| d) N W (by omega) (by omega))
  have HS := Lib.hid (fun (W : World) (x : Nat) (h1 : Ints W W.heap.size A xs) (h2 : Ints W W.heap.size D ws) (h3 : Brujn W) (hx : x &&& F = x) => by
    have hq := hin x hx
    have hb := hvv _ (show c ||| x < xs.length by rw [hl]; exact hq)
    have hxF : x ≤ F := by have : x &&& F ≤ F := Nat.and_le_right; omega
    exact slackC (N : Int) A xs cap D ws dap c x (c ||| x) W (Lib.hid h1) (Lib.hid h2) (Lib.hid h3) h6 hv hc (by omega) rfl (by rw [hl]; exact hq) (by rw [hwN]; exact hq) hb.1 hb.2)
  have HL := Lib.hid (fun p W hh => least_slack_any F hF32 (slackV xs ws c) p W (Lib.hid hh))
  rw [hF] at HK
  have hsv : ∀ x, xs.getD (c ||| x) 0 - weigh ws (c ||| x) ws.length = slackV xs ws c x := fun x => rfl
  simp only [hsv] at HS
  generalize slackV xs ws c = f at *
  clear hsv
  generalize leastTo f F F = r at *
  have hmf : ∀ (fn : Fn) (first cap : Array Value) (w : World), (Instr.makeFunc fn first cap).run Tryz.prog w = .ok (.func fn first cap) w := fun _ _ _ _ => rfl
  generalize c ||| d = cd at *
  clear hF hF32 hv hvv hl h0 h5 h6 hin hcd q1 q2 q3 hwN
  go_enter Tryz.func62, Tryz.ntmps62
  go_wp2_with (go_at_call 41; refine (HK.out _).mono ?_; rintro e w' ⟨rfl, rfl⟩)
  have HS1 := Lib.hid (HW.out.alloc [.int .i64 (N : Int), .slice A xs.length cap] 26)
  refine (HL.out _ _ ?_).mono ?_
  · intro x hx W hW
    have hS := HS1.out.below hW
    exact HS.out W x ((h.out.below hS.base).mono hS.size) ((g.out.below hS.base).mono hS.size) (brujn_on hbr.out hS.base) hx
  rintro e w1 ⟨rfl, hb⟩
  have HS2 := Lib.hid (HS1.out.below hb)
  clear hb
  go_wp2
  go_ret
  exact ⟨rfl, HS2.out.base⟩

end


theorem bvI_ne (n : Int) (D : Option Addr) (ws : List Int) (dap : Nat) (w : World) (q : (ws.length : Int) ≠ n) :
    Calls Tryz.prog 61 #[.slice D ws.length dap, .int .i64 n] w fun e w' => e = .returned (.bool false) ∧ w = w' := by
  have hne : ((ws.length : Int) == n) = false := beq_eq_false_iff_ne.2 q
  clear q
  go_enter Tryz.func61, Tryz.ntmps61
  go_wp2
  go_ret
  exact ⟨rfl, rfl⟩

theorem bvI_yes (D : Option Addr) (ws : List Int) (dap : Nat) (w : World) (g : Hid (Ints w w.heap.size D ws)) (hl : ws.length ≤ 1048576) (hv : ∀ k, k < ws.length → -5000 ≤ ws.getD k 0 ∧ ws.getD k 0 ≤ 5000) :
    Calls Tryz.prog 61 #[.slice D ws.length dap, .int .i64 (ws.length : Int)] w fun e w' => e = .returned (.bool true) ∧ w = w' := by
  have HC := Lib.hid (withinI_yes 5000 D ws dap w g (by decide) (by decide) hl hv)
  have hne : ((ws.length : Int) == (ws.length : Int)) = true := beq_self_eq_true _
  clear hv g hl
  go_enter Tryz.func61, Tryz.ntmps61
  go_wp2_with (go_at_call 47; refine HC.out.mono ?_; rintro e w' ⟨rfl, rfl⟩)
  go_ret
  exact ⟨rfl, rfl⟩

theorem bvI_no (D : Option Addr) (ws : List Int) (dap : Nat) (w : World) (g : Hid (Ints w w.heap.size D ws)) (hl : ws.length ≤ 1048576) (hv : ¬ ∀ k, k < ws.length → -5000 ≤ ws.getD k 0 ∧ ws.getD k 0 ≤ 5000) :
    Calls Tryz.prog 61 #[.slice D ws.length dap, .int .i64 (ws.length : Int)] w fun e w' => e = .returned (.bool false) ∧ w = w' := by
  obtain ⟨j, hj, hb, hk⟩ := vec5_bad hv
  have HC := Lib.hid (withinI_no 5000 D ws dap w g (by decide) (by decide) hl j hj hb hk)
  have hne : ((ws.length : Int) == (ws.length : Int)) = true := beq_self_eq_true _
  clear hv g hl hj hb hk
  go_enter Tryz.func61, Tryz.ntmps61
  go_wp2_with (go_at_call 47; refine HC.out.mono ?_; rintro e w' ⟨rfl, rfl⟩)
  go_ret
  exact ⟨rfl, rfl⟩


section

variable (n : Int) (A : Option Addr) (xs : List Int) (cap : Nat) (D : Option Addr) (ws : List Int) (dap : Nat) (w : World) (h : Hid (Ints w w.heap.size A xs)) (g : Hid (Ints w w.heap.size D ws)) (hl : ws.length ≤ 1048576)
include h g hl

set_option maxRecDepth 100000 in
theorem belowI_bad (q : isGround n xs = false) : Calls Tryz.prog 40 #[.agg #[.int .i64 n, .slice A xs.length cap], .slice D ws.length dap] w (RetV w (.bool false)) := by
  have HW := Lib.hid (St.start w)
  have HG := Lib.hid (fun W h1 => groundI_any n A xs cap W (Lib.hid h1))
  rw [q] at HG
  clear q
  go_enter Tryz.func40, Tryz.ntmps40
  go_wp2_with (go_at_call 33; refine St.use (w0 := w) (by exact HW.out.alloc _ _) ?_; intro hS; refine (HG.out _ ((h.out.below hS.base).mono hS.size)).mono ?_; rintro e w1 ⟨rfl, hb⟩; have HS := Lib.hid (hS.below hb); clear hS hb)
  go_ret
  exact ⟨rfl, HS.out.base⟩

set_option maxRecDepth 100000 in
set_option maxHeartbeats 1600000 in
theorem belowI_no (q1 : isGround n xs = true) (q : (ws.length : Int) ≠ n ∨ ((ws.length : Int) = n ∧ isVec5 ws = false)) : Calls Tryz.prog 40 #[.agg #[.int .i64 n, .slice A xs.length cap], .slice D ws.length dap] w (RetV w (.bool false)) := by
  have HW := Lib.hid (St.start w)
  have HG := Lib.hid (fun W h1 => groundI_any n A xs cap W (Lib.hid h1))
  obtain ⟨-, h5, -, -⟩ := ground_parts q1
  rw [q1] at HG
  have HV : Hid (∀ W, Ints W W.heap.size D ws → Calls Tryz.prog 61 #[.slice D ws.length dap, .int .i64 n] W fun e w' => e = .returned (.bool false) ∧ W = w') := by
    refine Lib.hid fun W h1 => ?_
    rcases q with q | ⟨q2, q3⟩
    · exact bvI_ne n D ws dap W q
    · rw [← q2]
      refine bvI_no D ws dap W (Lib.hid h1) hl fun hv => ?_
      rw [isVec5_mk (by omega) hv] at q3
      cases q3
  clear q q1 h5 hl
  go_enter Tryz.func40, Tryz.ntmps40
  go_wp2_with (first | (go_at_call 33; refine St.use (w0 := w) (by exact HW.out.alloc _ _) ?_; intro hS; refine (HG.out _ ((h.out.below hS.base).mono hS.size)).mono ?_; rintro e w1 ⟨rfl, hb⟩; have hS1 := hS.below hb; obtain ⟨b0, -⟩ := hS1.box (i := 0) rfl; have b00 := b0 0 _ rfl; have HS := Lib.hid hS1; clear hS hb hS1 b0) | (go_at_call 61; refine (HV.out _ ((g.out.below HS.out.base).mono HS.out.size)).mono ?_; rintro e w2 ⟨rfl, rfl⟩))
  go_ret
  exact ⟨rfl, HS.out.base⟩

set_option maxRecDepth 100000 in
set_option maxHeartbeats 1600000 in
theorem belowI_yes (hbr : Hid (Brujn w)) (q1 : isGround n xs = true) (q2 : (ws.length : Int) = n) (q3 : isVec5 ws = true) : Calls Tryz.prog 40 #[.agg #[.int .i64 n, .slice A xs.length cap], .slice D ws.length dap] w (RetV w (.bool (belowTo xs ws xs.length))) := by
  have HW := Lib.hid (St.start w)
  have HG := Lib.hid (fun W h1 => groundI_any n A xs cap W (Lib.hid h1))
  obtain ⟨h0, h5, hlx, -⟩ := ground_parts q1
  rw [q1] at HG
  have HV : Hid (∀ W, Ints W W.heap.size D ws → Calls Tryz.prog 61 #[.slice D ws.length dap, .int .i64 n] W fun e w' => e = .returned (.bool true) ∧ W = w') := by
    refine Lib.hid fun W h1 => ?_
    rw [← q2]
    exact bvI_yes D ws dap W (Lib.hid h1) hl (isVec5_yes q3).2
  have hfl := freeAll_lt n.toNat (by omega)
  have h32 : 2 ^ n.toNat ≤ 32 := Nat.le_trans (Nat.pow_le_pow_right (by decide) (show n.toNat ≤ 5 by omega)) (by decide)
  have HL := Lib.hid (fun W h1 h2 h3 => leastSlackI_any n A xs cap D ws dap W (Lib.hid h1) (Lib.hid h2) (Lib.hid h3) q1 q2 q3 0 0 (freeAll n.toNat) (by decide) (by decide) rfl (by omega) (fun x hx => by
    have : x &&& freeAll n.toNat ≤ freeAll n.toNat := Nat.and_le_right
    rw [Nat.zero_or]
    omega))
  rw [below_least hlx]
  rw [freeAll_eq] at HL
  generalize slackV xs ws 0 (leastTo (slackV xs ws 0) (2 ^ n.toNat - 1) (2 ^ n.toNat - 1)) = y at HL ⊢
  clear hfl h32 q1 q2 q3 hl hlx h0 h5
  go_enter Tryz.func40, Tryz.ntmps40
  go_wp2_with (first | (go_at_call 33; refine St.use (w0 := w) (by exact HW.out.alloc _ _) ?_; intro hS; refine (HG.out _ ((h.out.below hS.base).mono hS.size)).mono ?_; rintro e w1 ⟨rfl, hb⟩; have hS1 := hS.below hb; obtain ⟨b0, -⟩ := hS1.box (i := 0) rfl; have b00 := b0 0 _ rfl; have b01 := b0 1 _ rfl; have HS := Lib.hid hS1; clear hS hb hS1 b0) | (go_at_call 61; refine (HV.out _ ((g.out.below HS.out.base).mono HS.out.size)).mono ?_; rintro e w2 ⟨rfl, rfl⟩) | (go_at_call 62; refine (HL.out _ ((h.out.below HS.out.base).mono HS.out.size) ((g.out.below HS.out.base).mono HS.out.size) (brujn_on hbr.out HS.out.base)).mono ?_; rintro e w3 ⟨rfl, hb⟩; have HS3 := Lib.hid (HS.out.below hb); clear hb))
  go_ret
  exact ⟨rfl, HS3.out.base⟩

theorem belowI_any (hbr : Hid (Brujn w)) : Calls Tryz.prog 40 #[.agg #[.int .i64 n, .slice A xs.length cap], .slice D ws.length dap] w (RetV w (.bool (isBelow n xs ws))) := by
  unfold isBelow
  cases q1 : isGround n xs
  · exact belowI_bad n A xs cap D ws dap w h g hl q1
  · by_cases q2 : (ws.length : Int) = n
    · cases q3 : isVec5 ws
      · rw [Bool.false_and, Bool.and_false, Bool.and_false]
        exact belowI_no n A xs cap D ws dap w h g hl q1 (.inr ⟨q2, q3⟩)
      · rw [decide_eq_true q2, Bool.true_and, Bool.true_and, Bool.true_and]
        exact belowI_yes n A xs cap D ws dap w h g hl hbr q1 q2 q3
    · rw [decide_eq_false q2, Bool.false_and, Bool.and_false]
      exact belowI_no n A xs cap D ws dap w h g hl q1 (.inl q2)

end


end Go.Proofs.YtffbiflgmlabaaaGreatDoor.C

namespace Go.Proofs.YtffbiflgmlabaaaGreatDoor.C
open Go.RowKit K M
set_option linter.unusedVariables false
set_option linter.unusedSimpArgs false
set_option linter.unusedSectionVars false


section

variable (n : Int) (A : Option Addr) (xs : List Int) (cap : Nat) (D : Option Addr) (ws : List Int) (dap : Nat) (w : World) (h : Hid (Ints w w.heap.size A xs)) (g : Hid (Ints w w.heap.size D ws)) (hl : ws.length ≤ 1048576) (hbr : Hid (Brujn w))
include h g hl hbr

set_option maxRecDepth 100000 in
theorem baseI_no (q : isBelow n xs ws = false) : Calls Tryz.prog 15 #[.agg #[.int .i64 n, .slice A xs.length cap], .slice D ws.length dap] w (RetV w (.bool false)) := by
  have HW := Lib.hid (St.start w)
  have HB := Lib.hid (fun W h1 h2 h3 => belowI_any n A xs cap D ws dap W (Lib.hid h1) (Lib.hid h2) hl (Lib.hid h3))
  rw [q] at HB
  clear q
  go_enter Tryz.func15, Tryz.ntmps15
  go_wp2_with (go_at_call 40; refine St.use (w0 := w) (by exact HW.out.alloc _ _) ?_; intro hS; refine (HB.out _ ((h.out.below hS.base).mono hS.size) ((g.out.below hS.base).mono hS.size) (brujn_on hbr.out hS.base)).mono ?_; rintro e w1 ⟨rfl, hb⟩; have HS := Lib.hid (hS.below hb); clear hS hb)
  go_ret
  exact ⟨rfl, HS.out.base⟩

set_option maxRecDepth 100000 in
set_option maxHeartbeats 1600000 in
theorem baseI_yes (q : isBelow n xs ws = true) : Calls Tryz.prog 15 #[.agg #[.int .i64 n, .slice A xs.length cap], .slice D ws.length dap] w (RetV w (.bool (decide (weigh ws (xs.length - 1) ws.length = xs.getD (xs.length - 1) 0)))) := by
  have HW := Lib.hid (St.start w)
  have HB := Lib.hid (fun W h1 h2 h3 => belowI_any n A xs cap D ws dap W (Lib.hid h1) (Lib.hid h2) hl (Lib.hid h3))
  rw [q] at HB
  obtain ⟨q1, q2, q3, -⟩ := isBelow_yes q
  obtain ⟨h0, h5, hlx, hvv⟩ := ground_parts q1
  obtain ⟨h6, hv⟩ := isVec5_yes q3
  obtain ⟨N, rfl⟩ := Int.eq_ofNat_of_zero_le h0
  rw [Int.toNat_natCast] at hlx
  have hwN : ws.length = N := by omega
  have hp0 := Nat.two_pow_pos N
  have hk : (0 ^^^ (2 ^ N - 1) : Nat) = xs.length - 1 := by rw [hlx]; simp
  have HK := Lib.hid (fun W => compl_any 0 N W (by omega) (by omega))
  rw [hk] at HK
  have HC := Lib.hid (fun W h1 h2 => weigh5I_any D ws dap (xs.length - 1) W (Lib.hid h1) hv h6 (by rw [hwN, hlx]; omega) (Lib.hid h2))
  obtain ⟨b, off, rfl, hbl, hco⟩ := h.out.at_ (show xs.length - 1 < xs.length by rw [hlx]; omega)
  have hki : ((xs.length - 1 : Nat) : Int) < (xs.length : Int) := by rw [hlx]; omega
  generalize xs.length - 1 = k at *
  generalize weigh ws k ws.length = y at HC ⊢
  generalize xs.getD k 0 = x at hco ⊢
  obtain ⟨p, hp⟩ : ∃ p, xs.length = p := ⟨_, rfl⟩
  obtain ⟨m, hm⟩ : ∃ m, ws.length = m := ⟨_, rfl⟩
  rw [hp] at hki HB ⊢
  rw [hm] at HC HB ⊢
  have hk0 : (0 : Int) ≤ (k : Int) := by omega
  clear hk hlx hwN hp0 q q1 q2 q3 h0 h5 h6 hv hvv hp hm hl
  have HX := Lib.hid hco
  have key : decide (y = x) = (x == y) := by
    by_cases e : x = y
    · subst e; simp
    · rw [decide_eq_false fun e2 => e e2.symm, beq_eq_false_iff_ne.2 e]
  rw [key]
  clear hco key
  go_enter Tryz.func15, Tryz.ntmps15
  go_wp2_with (first
    | (go_at_call 40; refine St.use (w0 := w) (by exact HW.out.alloc _ _) ?_; intro hS; refine (HB.out _ ((h.out.below hS.base).mono hS.size) ((g.out.below hS.base).mono hS.size) (brujn_on hbr.out hS.base)).mono ?_; rintro e w1 ⟨rfl, hb⟩; have hS1 := hS.below hb; obtain ⟨b0, -⟩ := hS1.box (i := 0) rfl; have b00 := b0 0 _ rfl; have b01 := b0 1 _ rfl; have HS := Lib.hid hS1; clear hS hb hS1 b0)
    | (go_at_call 41; refine (HK.out _).mono ?_; rintro e w' ⟨rfl, rfl⟩))
  have hc1 := (HS.out.base.cell (p := ⟨b, off + k, none⟩) hbl).trans HX.out
  have hcl := (HS.out.lt (i := 0) rfl).2
  have hbl2 : b < w1.heap.size := Nat.lt_of_lt_of_le hbl HS.out.size
  go_region_held3 (fun w' => w'.cell? ⟨w.heap.size, 1, none⟩ = some (.slice (some ⟨b, off, none⟩) p cap) ∧ w'.cell? ⟨b, off + k, none⟩ = some (.int .i64 x)) (first | (refine ⟨?_, ?_⟩ <;> assumption) | assumption | go_keep)
    ((go_at_call 42; refine (HC.out _ ?_ ?_).mono ?_; (first | exact (g.out.below HS.out.base).mono HS.out.size | exact (g.out.below HS.out.drew.base).mono HS.out.drew.size); (first | exact brujn_on hbr.out HS.out.base | exact brujn_on hbr.out HS.out.drew.base); rintro e w2 ⟨rfl, hb2⟩; have HB2 := Lib.hid (HS.out.drew.below hb2); have hw1' := (hb2.cell (p := ⟨w.heap.size, 1, none⟩) hcl).trans b01; have hc' := (hb2.cell (p := ⟨b, off + k, none⟩) hbl2).trans hc1; clear hb2))
  go_wp2
  go_ret
  exact ⟨rfl, HB2.out.base⟩

theorem baseI_any : Calls Tryz.prog 15 #[.agg #[.int .i64 n, .slice A xs.length cap], .slice D ws.length dap] w (RetV w (.bool (isBase n xs ws))) := by
  unfold isBase
  cases q : isBelow n xs ws
  · exact baseI_no n A xs cap D ws dap w h g hl hbr q
  · rw [Bool.true_and]
    exact baseI_yes n A xs cap D ws dap w h g hl hbr q


end


end Go.Proofs.YtffbiflgmlabaaaGreatDoor.C
