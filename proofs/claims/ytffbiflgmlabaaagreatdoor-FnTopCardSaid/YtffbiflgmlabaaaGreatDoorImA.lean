/-
  Slices of structs of integers: they lie flat, some numbers an element; what the memory of a call knows of them.
  The contracts of impl.areWithin, areWeights, isVector, areVectors.
  The contract of impl.gainsAlong.
  Sets kept as maps from numbers to true: what a map of the call's own holds, and a range over it, told by which numbers are in it.
  'copy' onto a list of the call's own that is as long: what the memory of a call knows of it.
  'copy' onto a part of a list of the call's own: what the memory of a call knows of it, in one order and in a drawn region.
-/
import Derived.Test.YtffbiflgmlabaaaGreatDoorBase
import Derived.Test.YtffbiflgmlabaaaGreatDoorAllM
import Derived.Test.YtffbiflgmlabaaaGreatDoorVal
import Derived.StillTailTactics
import Derived.Maps.RangeWalk
import Derived.Maps.OwnOps
import Derived.Laws.CopyOwn
namespace Go.Proofs.YtffbiflgmlabaaaGreatDoor.K
open Go.RowKit
set_option linter.unusedVariables false

/-- A row of n structs of type t, k numbers each. -/
def mr (t : TypeId) (k : Nat) (v : Value) (n : Nat) (xs : List Int) : Cel := ⟨t, k, v, n, ints xs⟩

section

variable {w0 w w' : World} {L : List Cel} {t : TypeId} {k : Nat}
theorem mr_len {lo n : Nat} {v : Value} {xs : List Int} (h : w.ownsRow lo t k v n (ints xs)) : xs.length = n * k := by simpa [ints] using h.1
theorem mr_read {lo n cap : Nat} {A : Option Addr} {xs : List Int} (h : w.ownsRow lo t k (.slice A n cap) n (ints xs)) : Ints w w.heap.size A xs := by
  have hl := mr_len h
  intro h0
  have hn : 0 < n := Nat.pos_of_ne_zero fun e => by rw [e, Nat.zero_mul] at hl; omega
  obtain ⟨g, cap', hv, -, hg⟩ := h.form hn
  injection hv with h1 _ h3
  subst h1 h3
  refine ⟨g, 0, rfl, hg, fun j hj => ?_⟩
  rw [Nat.zero_add, h.cellAt j (by omega), ints_at xs hj]
theorem St.intsM {i n c : Nat} {A : Option Addr} {xs : List Int} (h : St w0 w L) (hi : L[i]? = some (mr t k (.slice A n c) n xs)) : Ints w w.heap.size A xs := mr_read (h.own hi)
theorem St.setM {i g c n : Nat} {xs : List Int} (h : St w0 w L) (hi : L[i]? = some (mr t k (.slice (some ⟨g, 0, none⟩) n c) n xs)) (j : Nat) (y : Int) : St w0 (w.setCell ⟨g, j, none⟩ (.int .i64 y)) (L.set i (mr t k (.slice (some ⟨g, 0, none⟩) n c) n (xs.set j y))) := by
  obtain ⟨h1, h2⟩ := (h.own hi).stored j (.int .i64 y)
  rw [show (mr t k (.slice (some ⟨g, 0, none⟩) n c) n xs).cs.set j (.int .i64 y) = K.ints (xs.set j y) from ints_set xs j y] at h1
  exact h.mark hi h2 h1
theorem St.cellM {i g c n : Nat} {xs : List Int} (h : St w0 w L) (hi : L[i]? = some (mr t k (.slice (some ⟨g, 0, none⟩) n c) n xs)) {j : Nat} (hj : j < n * k) : w.cell? ⟨g, j, none⟩ = some (.int .i64 (xs.getD j 0)) ∧ w.frozen? ⟨g, j, none⟩ = false := by
  have hl : xs.length = n * k := mr_len (h.own hi)
  refine ⟨?_, (h.own hi).frozenAt j⟩
  rw [(h.own hi).cellAt j (by simpa [mr] using hj)]
  exact ints_at xs (by omega)
theorem St.markM {i n : Nat} {v : Value} {xs ys : List Int} (h : St w0 w L) (hi : L[i]? = some (mr t k v n xs)) (hg : w.grownBy w' v.ownBlock) (ho : w'.ownsRow w0.heap.size t k v n (K.ints ys)) : St w0 w' (L.set i (mr t k v n ys)) := h.mark hi hg ho
theorem St.newM {v : Value} {n : Nat} {xs : List Int} (h : St w0 w L) (hb : Below w.heap.size w w') (ho : w'.ownsRow w.heap.size t k v n (K.ints xs)) : St w0 w' (mr t k v n xs :: L) := h.new hb ho

end


/-- What a call that returns a slice of n structs leaves: it is new, and nothing else has turned. -/
def RetM (t : TypeId) (k : Nat) (w : World) (n : Nat) (xs : List Int) (e : Ending) (w' : World) : Prop := ∃ A c, e = .returned (.slice A n c) ∧ w'.ownsRow w.heap.size t k (.slice A n c) n (ints xs) ∧ Below w.heap.size w w'


section

variable {w : World} {B : Nat} {A : Option Addr} {xs : List Int}
/-- Element k of a slice of structs of two, three numbers. -/
theorem Ints.at2 (h : Ints w B A xs) {n k : Nat} (hl : xs.length = n * 2) (hk : k < n) : ∃ b off, A = some ⟨b, off, none⟩ ∧ b < B ∧ w.cell? ⟨b, off + k * 2, none⟩ = some (.int .i64 (xs.getD (k * 2) 0)) ∧ w.cell? ⟨b, off + k * 2 + 1, none⟩ = some (.int .i64 (xs.getD (k * 2 + 1) 0)) := by
  obtain ⟨b, off, h1, h2, h3⟩ := h (by omega)
  exact ⟨b, off, h1, h2, h3 _ (by omega), by rw [Nat.add_assoc]; exact h3 _ (by omega)⟩
theorem Ints.at3 (h : Ints w B A xs) {n k : Nat} (hl : xs.length = n * 3) (hk : k < n) : ∃ b off, A = some ⟨b, off, none⟩ ∧ b < B ∧ w.cell? ⟨b, off + k * 3, none⟩ = some (.int .i64 (xs.getD (k * 3) 0)) ∧ w.cell? ⟨b, off + k * 3 + 1, none⟩ = some (.int .i64 (xs.getD (k * 3 + 1) 0)) ∧ w.cell? ⟨b, off + k * 3 + 2, none⟩ = some (.int .i64 (xs.getD (k * 3 + 2) 0)) := by
  obtain ⟨b, off, h1, h2, h3⟩ := h (by omega)
  exact ⟨b, off, h1, h2, h3 _ (by omega), by rw [Nat.add_assoc]; exact h3 _ (by omega), by rw [Nat.add_assoc]; exact h3 _ (by omega)⟩

end

theorem set_take {xs ys : List Int} {j : Nat} (ht : ys.take j = xs.take j) (hy : j < ys.length) (hx : j < xs.length) : (ys.set j (xs.getD j 0)).take (j + 1) = xs.take (j + 1) := by
  rw [List.take_succ_eq_append_getElem (by simpa using hy), List.take_succ_eq_append_getElem hx, List.take_set_of_le (Nat.le_refl _), ht]
  simp [hx]
theorem zerosM (z : Array Value) (n : Nat) (h0 : 0 < z.size) (hz : ∀ i, i < z.size → z[i]! = .int .i64 0) : (madeCells z n).toList = ints (List.replicate n 0) := by
  have e : (madeCells z n).toList = (List.range n).map fun i => z[i % z.size]! := by simp [madeCells]
  rw [e]
  unfold ints
  rw [List.map_replicate]
  refine List.eq_replicate_iff.2 ⟨by simp, fun x hx => ?_⟩
  obtain ⟨i, _, rfl⟩ := List.mem_map.1 hx
  exact hz _ (Nat.mod_lt _ h0)
theorem zeros3 (n : Nat) : (madeCells (Value.agg #[.int .i64 0, .int .i64 0, .int .i64 0]).cells n).toList = ints (List.replicate n 0) := zerosM #[.int .i64 0, .int .i64 0, .int .i64 0] n (by decide) fun i hi => match i, hi with
  | 0, _ => rfl
  | 1, _ => rfl
  | 2, _ => rfl
theorem zeros2 (n : Nat) : (madeCells (Value.agg #[.int .i64 0, .int .i64 0]).cells n).toList = ints (List.replicate n 0) := zerosM #[.int .i64 0, .int .i64 0] n (by decide) fun i hi => match i, hi with
  | 0, _ => rfl
  | 1, _ => rfl


end Go.Proofs.YtffbiflgmlabaaaGreatDoor.K

namespace Go.Proofs.YtffbiflgmlabaaaGreatDoor.C
open Go.RowKit K M
set_option linter.unusedVariables false
set_option linter.unusedSimpArgs false

theorem withinI_yes (L : Int) (A : Option Addr) (ws : List Int) (cap : Nat) (w : World) (h : Hid (Ints w w.heap.size A ws)) (h0 : 0 ≤ L) (h1 : L ≤ 1000000) (hl : ws.length ≤ 1048576) (hv : ∀ k, k < ws.length → -L ≤ ws.getD k 0 ∧ ws.getD k 0 ≤ L) :
    Calls Tryz.prog 47 #[.int .i64 L, .slice A ws.length cap] w fun e w' => e = .returned (.bool true) ∧ w = w' := by
  have HV := Lib.hid hv
  obtain ⟨m, hm⟩ : ∃ m, ws.length = m := ⟨_, rfl⟩
  have HX := Lib.hid hm
  have hng : IntKind.i64.wrap (-L) = -L := IntWalk.i64_in _ (by omega)
  rw [hm] at hl ⊢
  clear hv hm
  go_enter Tryz.func47, Tryz.ntmps47
  go_wp2
  go_loop [9] (fun i => ∃ k : Nat, k ≤ m ∧ i = .int .i64 k) (fun i => m - (intOf i).toNat)
  case atStart => exact ⟨0, Nat.zero_le _, rfl⟩
  case round =>
    obtain ⟨k, hk, rfl⟩ := hrel
    by_cases hlt : k < m
    · obtain ⟨b, off, rfl, hbl, hc⟩ := h.out.at_ (k := k) (by rw [HX.out]; omega)
      have hk0 : (0 : Int) ≤ (k : Int) := by omega
      have hkn : (k : Int) < (m : Int) := by omega
      obtain ⟨v1, v2⟩ := HV.out k (by rw [HX.out]; exact hlt)
      generalize ws.getD k 0 = x at hc v1 v2
      have v1' : ¬ x < -L := by omega
      have v2' : ¬ L < x := by omega
      go_wp2
      go_round
      case rel => exact ⟨k + 1, by omega, by go_num⟩
      case measure => simp [intOf]; omega
    · obtain rfl : k = m := by omega
      have hkn : ¬ (k : Int) < (k : Int) := by omega
      go_wp2
      go_ret
      exact ⟨rfl, rfl⟩

theorem withinI_no (L : Int) (A : Option Addr) (ws : List Int) (cap : Nat) (w : World) (h : Hid (Ints w w.heap.size A ws)) (h0 : 0 ≤ L) (h1 : L ≤ 1000000) (hl : ws.length ≤ 1048576) (j : Nat) (hj : j < ws.length) (hb : ws.getD j 0 < -L ∨ L < ws.getD j 0) (hv : ∀ k, k < j → -L ≤ ws.getD k 0 ∧ ws.getD k 0 ≤ L) :
    Calls Tryz.prog 47 #[.int .i64 L, .slice A ws.length cap] w fun e w' => e = .returned (.bool false) ∧ w = w' := by
  have HV := Lib.hid hv
  have HB := Lib.hid hb
  obtain ⟨m, hm⟩ : ∃ m, ws.length = m := ⟨_, rfl⟩
  have HX := Lib.hid hm
  have hng : IntKind.i64.wrap (-L) = -L := IntWalk.i64_in _ (by omega)
  rw [hm] at hj hl ⊢
  clear hv hm hb
  go_enter Tryz.func47, Tryz.ntmps47
  go_wp2
  go_loop [9] (fun i => ∃ k : Nat, k ≤ j ∧ i = .int .i64 k) (fun i => m - (intOf i).toNat)
  case atStart => exact ⟨0, Nat.zero_le _, rfl⟩
  case round =>
    obtain ⟨k, hk, rfl⟩ := hrel
    obtain ⟨b, off, rfl, hbl, hc⟩ := h.out.at_ (k := k) (by rw [HX.out]; omega)
    have hk0 : (0 : Int) ≤ (k : Int) := by omega
    have hkn : (k : Int) < (m : Int) := by omega
    by_cases hlt : k < j
    · obtain ⟨v1, v2⟩ := HV.out k hlt
      generalize ws.getD k 0 = x at hc v1 v2
      have v1' : ¬ x < -L := by omega
      have v2' : ¬ L < x := by omega
      go_wp2
      go_round
      case rel => exact ⟨k + 1, by omega, by go_num⟩
      case measure => simp [intOf]; omega
    · obtain rfl : k = j := by omega
      have hb := HB.out
      clear HB HV
      generalize ws.getD k 0 = x at hc hb
      by_cases c1 : x < -L
      · clear hb
        go_wp2
        go_ret
        exact ⟨rfl, rfl⟩
      · have c2 : L < x := by omega
        clear hb
        go_wp2
        go_ret
        exact ⟨rfl, rfl⟩

end Go.Proofs.YtffbiflgmlabaaaGreatDoor.C

namespace Go.Proofs.YtffbiflgmlabaaaGreatDoor.C
open Go.RowKit K M
set_option linter.unusedVariables false
set_option linter.unusedSimpArgs false

set_option maxRecDepth 100000 in
set_option maxHeartbeats 4000000 in
theorem gainsI_any (n : Int) (A : Option Addr) (xs : List Int) (cap : Nat) (D : Option Addr) (os : List Int) (dap : Nat) (w : World) (h : Hid (Ints w w.heap.size A xs)) (g : Hid (Ints w w.heap.size D os)) (m : Nat) (o : Nat → Nat)
    (hm : os.length = m) (h5 : m ≤ 5) (hx : xs.length = 2 ^ m) (hv : ∀ k, k < xs.length → -1000 ≤ xs.getD k 0 ∧ xs.getD k 0 ≤ 1000) (ho : ∀ i, i < m → os.getD i 0 = (o i : Int)) (hlt : ∀ i, i < m → o i < m) :
    Calls Tryz.prog 35 #[.agg #[.int .i64 n, .slice A xs.length cap], .slice D os.length dap] w (RetI w (gain xs o m m)) := by
  have HW := Lib.hid (St.start w)
  have h32 : 2 ^ m ≤ 32 := Nat.le_trans (Nat.pow_le_pow_right (by decide) h5) (by decide)
  have hpl := Lib.hid (fun i (hi : i ≤ m) => show pre o i < xs.length by rw [hx]; exact pre_lt i fun k hk => hlt k (by omega))
  have HPS := Lib.hid (fun i => show pre o (i + 1) = pre o i ||| 2 ^ o i from rfl)
  have HGL := Lib.hid (fun k => gain_len xs o m k)
  have HG := Lib.hid (fun k => show gain xs o m (k + 1) = (gain xs o m k).set (o k) (xs.getD (pre o (k + 1)) 0 - xs.getD (pre o k) 0) from rfl)
  have HG0 := Lib.hid (show gain xs o m 0 = List.replicate m 0 from rfl)
  have HO := Lib.hid ho
  have HLT := Lib.hid hlt
  have HXV := Lib.hid hv
  obtain ⟨p, hp⟩ : ∃ p, xs.length = p := ⟨_, rfl⟩
  have HX := Lib.hid hp
  have HM := Lib.hid hm
  rw [hp] at hpl hx ⊢
  rw [hm]
  have hp32 : p ≤ 32 := by omega
  have hgm := HGL.out m
  generalize gain xs o m = G at *
  clear ho hlt hv hp hm hx h32
  obtain ⟨i0, hi, hi0, hi1, hi2⟩ := info_parts info_int
  go_enter Tryz.func35, Tryz.ntmps35
  go_wp2_with (refine wpList_make_full _ rfl _ _ _ rfl (w.heap.size + 1) 3 i0 (.int .i64 0) 1 Tryz.underlying24 hi hi0 hi1 .i64 .i64 _ _ m rfl rfl rfl rfl (by rw [hi2]; omega) (by unfold maxLen; omega) (by simp) ?_; intro w1 hown1 hg1)
  rw [zeros] at hown1
  simp only [World.size_alloc] at hown1
  have HS1 := Lib.hid (show St w _ [il (.slice (some ⟨w.heap.size + 1, 0, none⟩) m m) m (List.replicate m 0), bx w.heap.size 26 [.int .i64 n, .slice A p cap]] from ((HW.out.alloc _ _).new ((Below.refl _ _).grown hg1 (Nat.le_refl _) (by simp)) (by rw [World.size_alloc]; exact hown1)))
  clear hown1 hg1 hi hi0 hi1 hi2
  go_loopw [6, 15] (fun b i wr => ∃ k : Nat, i = .int .i64 k ∧ k ≤ m ∧ b = .int .i64 (pre o k) ∧ St w wr [il (.slice (some ⟨w.heap.size + 1, 0, none⟩) m m) m (G k), bx w.heap.size 26 [.int .i64 n, .slice A p cap]]) (fun _ i _ => m - (intOf i).toNat)
  case atStart => exact ⟨0, rfl, Nat.zero_le _, rfl, by rw [HG0.out]; exact HS1.out⟩
  case round =>
    obtain ⟨k, rfl, hk, rfl, hS⟩ := hrel
    by_cases hlt : k < m
    · obtain ⟨b, off, rfl, hbl, hco⟩ := (g.out.below hS.base).at_ (k := k) (by rw [HM.out]; exact hlt)
      rw [HO.out k hlt] at hco
      have hek := HLT.out k hlt
      have hs1 := hpl.out k (by omega)
      have hs2 := hpl.out (k + 1) (by omega)
      have hst := HPS.out k
      have hG := HG.out k
      obtain ⟨b', off', rfl, hbl', hc1⟩ := (h.out.below hS.base).at_ (k := pre o k) (by rw [HX.out]; exact hs1)
      obtain ⟨b'', off'', e'', hbl'', hc2⟩ := (h.out.below hS.base).at_ (k := pre o (k + 1)) (by rw [HX.out]; exact hs2)
      obtain ⟨rfl, rfl⟩ : b' = b'' ∧ off' = off'' := by cases e''; exact ⟨rfl, rfl⟩
      have v1 := HXV.out _ (by rw [HX.out]; exact hs1)
      have v2 := HXV.out _ (by rw [HX.out]; exact hs2)
      obtain ⟨b0, -⟩ := hS.box (i := 1) rfl
      have b00 := b0 0 _ rfl
      have b01 := b0 1 _ rfl
      generalize hE : o k = E at *
      obtain ⟨c1, c2⟩ := hS.cellI (i := 0) rfl hek
      have hwe : withE (pre o k : Int) (E : Int) = pre o (k + 1) := by
        rw [hst]
        unfold withE
        rw [Int.toNat_natCast, Int.toNat_natCast]
      generalize hT : pre o (k + 1) = T at *
      generalize pre o k = S at *
      generalize xs.getD T 0 = u at *
      generalize xs.getD S 0 = v at *
      have hcw := Lib.hid (fun W => with_any (S : Int) (E : Int) W (by omega) (by omega) (by omega) (by omega))
      rw [hwe] at hcw
      have hw1 : IntKind.i64.wrap (u - v) = u - v := IntWalk.i64_in _ (by omega)
      have hE0 : (0 : Int) ≤ (E : Int) := by omega
      have hEm : (E : Int) < (m : Int) := by omega
      have hk0 : (0 : Int) ≤ (k : Int) := by omega
      have hkm : (k : Int) < (m : Int) := by omega
      have hS0 : (0 : Int) ≤ (S : Int) := by omega
      have hSp : (S : Int) < (p : Int) := by omega
      have hT0 : (0 : Int) ≤ (T : Int) := by omega
      have hTp : (T : Int) < (p : Int) := by omega
      have HGK := Lib.hid hG
      have HT := Lib.hid hT
      have HR := Lib.hid hS
      clear hS hst e'' hT hG b0 hE hwe
      go_wp2_with (go_at_call 55; refine (hcw.out _).mono ?_; rintro e w' ⟨rfl, rfl⟩)
      go_still_tail 14, (by kernel_rfl)
      change wpList _ _ _ _ _ wr.drew
      generalize hwd : wr.drew = wd
      have k1 : wd.cell? ⟨w.heap.size + 1, E, none⟩ = some (.int .i64 ((G k).getD E 0)) := by rw [← hwd]; exact c1
      have k2 : wd.frozen? ⟨w.heap.size + 1, E, none⟩ = false := by rw [← hwd]; exact c2
      have HR2 := Lib.hid (show St w wd _ from hwd ▸ HR.out.drew)
      clear hwd
      go_wp2
      go_roundw
      case rel => exact ⟨k + 1, by go_num, by omega, by rw [HT.out], by rw [HGK.out]; exact HR2.out.setI (i := 0) rfl E _⟩
      case measure => simp [intOf]; omega
    · obtain rfl : k = m := by omega
      have hkn : ¬ (k : Int) < (k : Int) := by omega
      have HR := Lib.hid hS
      clear hS
      go_wp2
      go_ret
      exact ⟨_, _, by rw [hgm]; rfl, by rw [hgm]; exact HR.out.ownI (i := 0) rfl, HR.out.base⟩

end Go.Proofs.YtffbiflgmlabaaaGreatDoor.C

namespace Go.Proofs.YtffbiflgmlabaaaGreatDoor.K
open Go.RowKit Go.ChangeMaps Go.MapKept
open Go.WideElems (Fit)
open Go.Maps (Keyed)
set_option linter.unusedVariables false
set_option linter.unusedSimpArgs false

def onlyTrue (v : Value) : Option (DataW Unit × List MemPlace) :=
  match v with
  | .bool true => some (.lit (.bool true), [])
  | _ => none
theorem onlyTrue_inv {v : Value} {y : DataW Unit × List MemPlace} (h : onlyTrue v = some y) : v = .bool true := by
  unfold onlyTrue at h
  split at h
  · rfl
  · cases h
/-- Block b is a map of at most n entries; x is in it just if T x. -/
def MapS (P : Program) (k : TypeId) (w : World) (b n : Nat) (T : Int → Bool) : Prop :=
  ∃ D : DataW Unit, w.ownsMap P k onlyTrue b n D ∧ ∀ x, Maps.has D (.int .i64 x) = T x
/-- .. and block r ranges over it; x is still to come just if left x; cnt are. -/
def RngS (P : Program) (k : TypeId) (w : World) (b r n : Nat) (T left : Int → Bool) (cnt : Nat) : Prop :=
  ∃ (D : DataW Unit) (lf : Lit → Bool), w.ranges P k onlyTrue b r n D lf cnt ∧ (∀ x, Maps.has D (.int .i64 x) = T x) ∧ ∀ x, lf (.int .i64 x) = left x


section

variable {P : Program} {k t e : TypeId} {w w' : World} {b r n cnt : Nat} {T left : Int → Bool}

theorem grown_of_below (h : Below w.heap.size w w') : w.grownBy w' none := ⟨h.os, h.tape, h.output, h.size, fun i hi _ => h.block i hi⟩

theorem below_of_grown (h : w.grownBy w' none) : Below w.heap.size w w' := ⟨h.os, h.tape, h.output, h.size, fun i hi => h.block i hi (by simp)⟩

theorem MapS.made (w : World) : MapS P k (w.alloc (.map #[] 0)) w.heap.size 0 (fun _ => false) := ⟨_, World.ownsMap_made w P k _, fun x => rfl⟩
theorem MapS.mono (h : MapS P k w b n T) {m : Nat} (hn : n ≤ m) : MapS P k w b m T := let ⟨D, h1, h2⟩ := h; ⟨D, h1.mono hn, h2⟩
theorem MapS.lt (h : MapS P k w b n T) : b < w.heap.size := let ⟨_, h1, _⟩ := h; h1.lt
theorem MapS.kept {row : Option Nat} (h : MapS P k w b n T) (hg : w.grownBy w' row) (hne : some b ≠ row) : MapS P k w' b n T := let ⟨D, h1, h2⟩ := h; ⟨D, h1.kept hg hne, h2⟩
theorem MapS.below (h : MapS P k w b n T) (hb : Below w.heap.size w w') : MapS P k w' b n T := h.kept (grown_of_below hb) (by simp)
theorem MapS.congr {U : Int → Bool} (h : MapS P k w b n T) (hU : ∀ x, T x = U x) : MapS P k w b n U := let ⟨D, h1, h2⟩ := h; ⟨D, h1, fun x => (h2 x).trans (hU x)⟩

theorem same_int (x y : Int) : (Lit.int .i64 x).sameKey (.int .i64 y) = decide (x = y) := by
  by_cases e : x = y
  · subst e; simp [Lit.sameKey]
  · simp [Lit.sameKey, e]

theorem MapS.put (h : MapS P k w b n T) (hk : P.underlying k = some (.int .i64)) (ht : P.underlying t = some (.map k e)) (hn : n < 1048576) {y : Int} (hy : -9223372036854775808 ≤ y ∧ y ≤ 9223372036854775807) :
    ∃ w', (Instr.mapUpdate t (.map (some b)) (.int .i64 y) (.bool true)).run P w = .ok () w' ∧ MapS P k w' b (n + 1) (fun x => T x || decide (x = y)) ∧ w.grownBy w' (some b) := by
  obtain ⟨D, h1, h2⟩ := h
  have hd := h1.isMap
  obtain ⟨w', hr, h3, h4⟩ := h1.update (Maps.int_keyed hk) ht (by unfold maxLen; omega) (Maps.keyOf_int_mk hk (WalkArith.wf_i64 hy)) (val := .bool true) (d := .lit (.bool true)) (ps := []) rfl
  refine ⟨w', hr, ⟨_, h3, fun x => ?_⟩, h4⟩
  by_cases e : x = y
  · subst e
    rw [Maps.has_put_same hd (by trivial)]
    simp
  · rw [Maps.has_put_other (fun e2 => e (by injection e2)), h2]
    simp [e]

theorem MapS.look (h : MapS P k w b n T) (hk : P.underlying k = some (.int .i64)) (ht : P.underlying t = some (.map k e)) (hz : (zeroValue e).run P w = .ok (.bool false) w) {y : Int} (hy : -9223372036854775808 ≤ y ∧ y ≤ 9223372036854775807) :
    (Instr.lookup t (.map (some b)) (.int .i64 y) false).run P w = .ok (.bool (T y)) w := by
  obtain ⟨D, ⟨es, clock, hb, F, _, rfl⟩, h2⟩ := h
  rcases Maps.fit_look false (Maps.int_keyed hk) ht hz hb F (Maps.keyOf_int_mk hk (WalkArith.wf_i64 hy)) with ⟨hrun, _, hat⟩ | ⟨e0, z, _, _, hrun, hRv, hat, _⟩
  · rw [← h2, Maps.has_false_of_atKey hat]; exact hrun
  · rw [← h2, Maps.has_true_of_atKey hat, hrun, onlyTrue_inv hRv]; rfl

theorem MapS.clear (h : MapS P k w b n T) (ht : P.underlying t = some (.map k e)) (ty : TypeId) :
    ∃ v w', (Builtin.clear_ #[t] ty #[.map (some b)]).run P w = .ok v w' ∧ MapS P k w' b 0 (fun _ => false) ∧ w.grownBy w' (some b) := by
  obtain ⟨D, ⟨es, clock, hb, F, _, rfl⟩, h2⟩ := h
  refine ⟨.tuple #[], setBlock w b (.map #[] clock), ?_, ⟨.map [], ⟨#[], clock, heap_setBlock_same hb _, ⟨by simp, stamped_empty clock, by simp⟩, Nat.le_refl _, rfl⟩, fun x => rfl⟩, ⟨rfl, rfl, rfl, by simp [setBlock], fun i _ hi => heap_setBlock_other hb _ (fun e => hi (by rw [e]))⟩⟩
  simp [Builtin.clear_, run_underlying ht, MapKept.run_getObj_map hb, MapKept.run_setObj_map _ hb, Result.andThen, setBlock]

theorem RngS.map (h : RngS P k w b r n T left cnt) : MapS P k w b n T := let ⟨D, lf, h1, h2, _⟩ := h; ⟨D, h1.owns, h2⟩
theorem RngS.ne (h : RngS P k w b r n T left cnt) : r ≠ b := let ⟨_, _, h1, _⟩ := h; h1.ne
theorem RngS.lt (h : RngS P k w b r n T left cnt) : r < w.heap.size := let ⟨_, _, h1, _⟩ := h; h1.lt
theorem RngS.left_eq (h : RngS P k w b r n T left cnt) : w.rangeLeft b r = cnt := let ⟨_, _, h1, _⟩ := h; h1.left_eq
theorem RngS.kept {row : Option Nat} (h : RngS P k w b r n T left cnt) (hg : w.grownBy w' row) (hb : some b ≠ row) (hr : some r ≠ row) : RngS P k w' b r n T left cnt := let ⟨D, lf, h1, h2⟩ := h; ⟨D, lf, h1.kept hg hb hr, h2⟩
theorem RngS.below (h : RngS P k w b r n T left cnt) (hb : Below w.heap.size w w') : RngS P k w' b r n T left cnt := h.kept (grown_of_below hb) (by simp) (by simp)

end



section

variable {P : Program} {k t e : TypeId} (w : World) {b r n cnt : Nat} {T left : Int → Bool} {ops : Array Oper} {rest : List Oper} {o : Oper} {a : Act} {Q : Exit → Act → World → Prop}

/-- 'm[y] = true'. -/
theorem wpList_putS (hg : o.guard = none) (m x v : Operand) (hop : o.op = Op.mapUpdate t m x v) (hk : P.underlying k = some (.int .i64)) (ht : P.underlying t = some (.map k e)) (h : MapS P k w b n T) (hn : n < 1048576) (y : Int) (hy : -9223372036854775808 ≤ y ∧ y ≤ 9223372036854775807)
    (hm : a.eval m = .map (some b)) (hx : a.eval x = .int .i64 y) (hv : a.eval v = .bool true)
    (hK : ∀ w', MapS P k w' b (n + 1) (fun x => T x || decide (x = y)) → w.grownBy w' (some b) → wpList P ops Q rest (a.put o.dst undef) w') : wpList P ops Q (o :: rest) a w := by
  refine wpList_plain hg fun K' hK' => ?_
  obtain ⟨w', hrun, r1, r2⟩ := h.put hk ht hn hy
  unfold Oper.wp
  simp [execOp, hop, hm, hx, hv, hrun, Result.andThen]
  exact hK' _ _ (hK w' r1 r2)

/-- 'm[y]'. -/
theorem wpList_lookS (hg : o.guard = none) (m x : Operand) (hop : o.op = Op.lookup t m x false) (hk : P.underlying k = some (.int .i64)) (ht : P.underlying t = some (.map k e)) (hz : ∀ w, (zeroValue e).run P w = .ok (.bool false) w) (h : MapS P k w b n T) (y : Int) (hy : -9223372036854775808 ≤ y ∧ y ≤ 9223372036854775807)
    (hm : a.eval m = .map (some b)) (hx : a.eval x = .int .i64 y)
    (hK : wpList P ops Q rest (a.put o.dst (.bool (T y))) w) : wpList P ops Q (o :: rest) a w := by
  refine wpList_plain hg fun K' hK' => ?_
  unfold Oper.wp
  simp [execOp, hop, hm, hx, h.look hk ht (hz w) hy, Result.andThen]
  exact hK' _ _ hK

/-- 'clear(m)'. -/
theorem wpList_clearS (hg : o.guard = none) (m : Operand) (hop : o.op = Op.call { callee := Callee.builtin Builtin.clear, args := #[m], argTypes := #[t] }) (ht : P.underlying t = some (.map k e)) (h : MapS P k w b n T) (hm : a.eval m = .map (some b))
    (hK : ∀ v w', MapS P k w' b 0 (fun _ => false) → w.grownBy w' (some b) → wpList P ops Q rest (a.put o.dst v) w') : wpList P ops Q (o :: rest) a w := by
  refine wpList_plain hg fun K' hK' => ?_
  obtain ⟨v, w', hrun, r1, r2⟩ := h.clear ht o.type
  unfold Oper.wp
  simp [execOp, hop, resolve, invoke, builtin, hm, hrun, Result.andThen]
  exact hK' _ _ (hK v w' r1 r2)

/-- 'range m'. -/
theorem wpList_rangeS (hg : o.guard = none) (m : Operand) (hop : o.op = Op.range t m) (hk : P.underlying k = some (.int .i64)) (ht : P.underlying t = some (.map k e)) (h : MapS P k w b n T) (hm : a.eval m = .map (some b))
    (hK : ∀ w' cnt, cnt ≤ n → RngS P k w' b w.heap.size n T T cnt → w.grownBy w' none → w'.heap.size = w.heap.size + 1 → wpList P ops Q rest (a.put o.dst (.pointer (some ⟨w.heap.size, 0, none⟩))) w') : wpList P ops Q (o :: rest) a w := by
  obtain ⟨D, h1, h2⟩ := h
  exact wpList_range_own w hg m t hop k e (Maps.int_keyed hk) ht onlyTrue b n D hm h1 fun w' r1 r2 r3 => hK w' _ h1.size_le ⟨D, _, r1, h2, h2⟩ r2 r3

/-- The next one of a range. -/
theorem wpList_nextS (hg : o.guard = none) (it : Operand) (hop : o.op = Op.next it false) (hk : P.underlying k = some (.int .i64)) (hit : a.eval it = .pointer (some ⟨r, 0, none⟩)) (h : RngS P k w b r n T left cnt)
    (hDone : (∀ x, left x = false) → wpList P ops Q rest (a.put o.dst (.tuple #[.bool false])) w)
    (hMore : ∀ (x : Int) (w' : World) (cnt' : Nat), left x = true → T x = true → RngS P k w' b r n T (fun z => left z && !decide (z = x)) cnt' → cnt' < cnt → w.grownBy w' (some r) → w'.heap.size = w.heap.size →
      (Instr.entry (.pointer (some ⟨r, 0, none⟩))).run P w' = .ok (.tuple #[.int .i64 x, .bool true]) w' → wpList P ops Q rest (a.put o.dst (.tuple #[.bool true, .int .i64 x, .bool true])) w') : wpList P ops Q (o :: rest) a w := by
  obtain ⟨D, lf, h1, h2, h3⟩ := h
  refine wpList_next_ranges w hg it hop k (Maps.int_keyed hk) onlyTrue (Value.int .i64) (fun _ : Unit => Value.bool true) (fun key kl hkey => by obtain ⟨x, rfl, _⟩ := Maps.keyOf_int_inv hk hkey; exact ⟨x, rfl⟩) (fun v y hv => ⟨(), onlyTrue_inv hv⟩) b r n D lf cnt hit h1 (fun _ hl => hDone fun x => (h3 x).symm.trans (hl _)) ?_
  intro x c kl y w' cnt' hkey hlk hv hat hrg hlt hgr hsz hen
  obtain ⟨x', ex, rfl, hwx⟩ := Maps.keyOf_int_inv hk hkey
  cases ex
  have hT : T x = true := by rw [← h2]; exact Maps.has_true_of_atKey hat
  exact hMore x w' cnt' ((h3 x).symm.trans hlk) hT ⟨D, _, hrg, h2, fun z => by show (lf (.int .i64 z) && !(Lit.int .i64 z).sameKey (.int .i64 x)) = _; rw [h3, same_int]⟩ hlt hgr hsz hen

end


/-- A row of cells is no map, no iterator. -/
theorem far_map {P : Program} {k : TypeId} {w : World} {b m : Nat} {T : Int → Bool} {lo s n : Nat} {t : TypeId} {v : Value} {cs : List Value} (h : w.ownsRow lo t s v n cs) (hm : MapS P k w b m T) : v.ownBlock ≠ some b := by
  obtain ⟨D, ⟨es, clock, hb, _⟩, _⟩ := hm
  rcases h.2 with ⟨rfl, _⟩ | ⟨g, cap, cur, rfl, _, hg, _⟩
  · simp [Value.ownBlock]
  · intro e
    obtain rfl : g = b := Option.some.inj e
    rw [hb] at hg
    cases hg
theorem far_iter {P : Program} {k : TypeId} {w : World} {b r m cnt : Nat} {T left : Int → Bool} {lo s n : Nat} {t : TypeId} {v : Value} {cs : List Value} (h : w.ownsRow lo t s v n cs) (hm : RngS P k w b r m T left cnt) : v.ownBlock ≠ some r := by
  obtain ⟨D, lf, ⟨_, _, _, _, _, _, _, _, _, hit, _⟩, _⟩ := hm
  rcases h.2 with ⟨rfl, _⟩ | ⟨g, cap, cur, rfl, _, hg, _⟩
  · simp [Value.ownBlock]
  · intro e
    obtain rfl : g = r := Option.some.inj e
    rw [hit] at hg
    cases hg
theorem far_box {g b : Nat} {t : TypeId} {cs : List Value} (h : g ≠ b) : (bx g t cs).v.ownBlock ≠ some b := fun e => h (Option.some.inj e)
/-- A block of the call's own that is none of the rows has turned. -/
theorem St.grown {w0 w w' : World} {L : List Cel} {b : Nat} (h : St w0 w L) (hg : w.grownBy w' (some b)) (hb : w0.heap.size ≤ b) (hn : ∀ q ∈ L, q.v.ownBlock ≠ some b) : St w0 w' L :=
  ⟨h.1.grown hg h.1.size (fun k hk => by cases hk; exact hb), fun q hq => (h.2.1 q hq).kept hg (by
    cases hv : q.v.ownBlock with
    | none => exact .inl rfl
    | some j => exact .inr (fun e => hn q hq (hv.trans e))), h.2.2⟩
/-- The range's own block has turned: the rows stay. -/
theorem St.stepped {P : Program} {k : TypeId} {w0 w w' : World} {L : List Cel} {b r m cnt : Nat} {T left : Int → Bool} (h : St w0 w L) (hm : RngS P k w b r m T left cnt) (hg : w.grownBy w' (some r)) (hr : w0.heap.size ≤ r) : St w0 w' L :=
  h.grown hg hr fun q hq => far_iter (h.2.1 q hq) hm
theorem St.stored {P : Program} {k : TypeId} {w0 w w' : World} {L : List Cel} {b m : Nat} {T : Int → Bool} (h : St w0 w L) (hm : MapS P k w b m T) (hg : w.grownBy w' (some b)) (hb : w0.heap.size ≤ b) : St w0 w' L :=
  h.grown hg hb fun q hq => far_map (h.2.1 q hq) hm


section

variable {w0 w w' : World} {L : List Cel}
/-- An append of one number, told with what turns by it. -/
theorem wpList_app1g {ops : Array Oper} {rest : List Oper} {o' : Oper} {a : Act} {Q : Exit → Act → World → Prop} (hgd : o'.guard = none) (s x : Operand) (t : TypeId)
    (ho : o'.op = .call { callee := .builtin .append, args := #[s, x], argTypes := #[t, t] })
    {i n g : Nat} {v : Value} {xs : List Int} (y : Int) {o : TypeInfo} (ht : Tryz.prog.underlying t = some (.slice 3)) (hio : Tryz.prog.info? 3 = some o) (hz : o.zero = some (.int .i64 0)) (hsz : o.size = 1) (hy : o.bytes = 8)
    (h : St w0 w L) (hi : L[i]? = some (il v n xs)) (hs : a.eval s = v) (hx : a.eval x = .slice (some ⟨g, 0, none⟩) 1 1) (hc : w.cell? ⟨g, 0, none⟩ = some (.int .i64 y)) (hn : n ≤ 1048576)
    (hK : ∀ A' c' w', St w0 w' (L.set i (il (.slice A' (n + 1) c') (n + 1) (xs ++ [y]))) → w.grownBy w' v.ownBlock → wpList Tryz.prog ops Q rest (a.put o'.dst (.slice A' (n + 1) c')) w') : wpList Tryz.prog ops Q (o' :: rest) a w := by
  refine wpList_plain hgd fun K hK' => ?_
  obtain ⟨v', w', hr, h2, h3, _, h5⟩ := run_append_own_at (P := Tryz.prog) w w0.heap.size t o'.type 3 o (.int .i64 0) 1 8 ht hio hz hsz hy rfl (by decide) v n (ints xs) (h.own hi) ⟨g, 0, none⟩ 1 1 [.int .i64 y] rfl (fun j u hu => by
      have : j = 0 := by
        have := (List.getElem?_eq_some_iff.1 hu).1
        simpa using this
      subst this
      rw [List.getElem?_cons_zero] at hu
      cases hu
      simpa [Addr.add] using hc) (fun u hu => by simp at hu; subst hu; rfl) (by unfold maxLen; omega) (by omega) h.size
  obtain ⟨g', cap, hv, _⟩ := h2.form (by omega)
  subst hv
  have h6 := h.app hi h3 h2 h5
  rw [show ints xs ++ [Value.int .i64 y] = ints (xs ++ [y]) by simp [ints]] at h6
  unfold Oper.wp execOp
  simp only [ho, resolve, invoke, builtin, Sem.run_bind, Sem.run_pure, Result.andThen_ok, List.map_toArray, List.map_cons, List.map_nil, hs, hx, hr]
  exact hK' _ _ (hK _ _ _ h6 h3)

end


end Go.Proofs.YtffbiflgmlabaaaGreatDoor.K

namespace Go.Proofs.YtffbiflgmlabaaaGreatDoor.K
open Go.RowKit
set_option linter.unusedVariables false


section

variable {w0 w : World} {L : List Cel}

theorem add_at (b off j : Nat) : (⟨b, off, none⟩ : Addr).add j = ⟨b, off + j, none⟩ := by unfold Addr.add; split <;> simp_all
theorem grown_setRow (w : World) (g : Nat) (cs : Array Value) : w.grownBy (w.setRow g cs) (some g) :=
  ⟨rfl, rfl, rfl, by simp [World.setRow], fun k hk hne => setRow_other w g k cs (by intro e; subst e; exact hne rfl)⟩

theorem wpList_copyI {ops : Array Oper} {rest : List Oper} {o' : Oper} {a : Act} {Q : Exit → Act → World → Prop} (hgd : o'.guard = none) (d s : Operand) (t : TypeId)
    (ho : o'.op = .call { callee := .builtin .copy, args := #[d, s], argTypes := #[t, t] }) {i g n c cap : Nat} {A : Option Addr} {xs ys : List Int} (hu : Tryz.prog.underlying t = some (.slice 3)) (hsz : (Tryz.prog.info? 3).map (·.size) = some 1)
    (h : St w0 w L) (hi : L[i]? = some (il (.slice (some ⟨g, 0, none⟩) n c) n ys)) (hs : Ints w w.heap.size A xs) (hx : xs.length = n) (hd : a.eval d = .slice (some ⟨g, 0, none⟩) n c) (hse : a.eval s = .slice A n cap)
    (hK : ∀ w', St w0 w' (L.set i (il (.slice (some ⟨g, 0, none⟩) n c) n xs)) → wpList Tryz.prog ops Q rest (a.put o'.dst (goInt n)) w') : wpList Tryz.prog ops Q (o' :: rest) a w := by
  have hown := h.own hi
  obtain ⟨hl, hcase⟩ := hown
  rcases hcase with ⟨hv, -⟩ | ⟨g', cap', cur, hv, hb, hg, hnc, hcm, hcs, htake⟩
  · injection hv with h1 _ _; cases h1
  · obtain ⟨rfl, rfl⟩ : g = g' ∧ c = cap' := by
      injection hv with h1 _ h3
      injection h1 with h1
      injection h1 with h1 _ _
      exact ⟨h1, h3⟩
    clear hv
    have hyl : ys.length = n := by simpa [il, K.ints] using hl
    by_cases h0 : n = 0
    · subst h0
      obtain rfl : xs = [] := List.eq_nil_of_length_eq_zero hx
      obtain rfl : ys = [] := List.eq_nil_of_length_eq_zero hyl
      refine wpList_copy_nothing hgd d s t t ho 3 hu hsz _ _ _ _ _ _ hd hse rfl ?_
      refine hK w ?_
      obtain ⟨hlt, he⟩ := List.getElem?_eq_some_iff.1 hi
      rw [← he, List.set_getElem_self]
      exact h
    · obtain ⟨b, off, rfl, hbl, hc⟩ := hs (by omega)
      have hcur : n ≤ cur.size := by
        have : cur.size = c * 1 := hcs
        have : n ≤ c := hnc
        omega
      have hlen : (K.ints xs).length = n := by simp [K.ints, hx]
      refine wpList_copy_own hgd d s t t ho 3 hu hsz g 0 n c ⟨b, off, none⟩ n cap hd hse cur _ hg (K.ints xs) (by rw [hlen]; simp) (fun j v hj => ?_) (by rw [hlen]; omega) (fun v hv => ?_) ?_
      · have hjl : j < xs.length := by
          have := (List.getElem?_eq_some_iff.1 hj).1
          simpa [K.ints] using this
        rw [add_at, hc j hjl, ← hj]
        exact (ints_at xs hjl).symm
      · obtain ⟨z, _, rfl⟩ := List.mem_map.1 hv
        rfl
      · rw [hlen]
        refine hK _ ?_
        refine h.mark hi (grown_setRow w g _) ⟨by simp [il, K.ints, hx], .inr ⟨g, c, _, rfl, hb, setRow_heap w g _ _ _ _ hg, hnc, hcm, ?_, ?_⟩⟩
        · show (List.toArray _).size = _
          have : cur.size = c * 1 := hcs
          simp [il]
          omega
        · show List.take (n * 1) _ = K.ints xs
          simp [hlen]

end


end Go.Proofs.YtffbiflgmlabaaaGreatDoor.K

namespace Go.Proofs.YtffbiflgmlabaaaGreatDoor.K
open Go.RowKit
set_option linter.unusedVariables false


section

variable {w0 w : World} {L : List Cel}

theorem St.splice {i g n c k : Nat} {ys : List Int} (zs : List Int) (h : St w0 w L) (hi : L[i]? = some (il (.slice (some ⟨g, 0, none⟩) n c) n ys)) (hfit : k + zs.length ≤ n) :
    ∃ cur : Array Value, w.heap[g]? = some (.cells cur 3 (0, 0)) ∧ k + zs.length ≤ cur.size ∧
      St w0 (w.setRow g (cur.toList.take k ++ (K.ints zs ++ cur.toList.drop (k + (K.ints zs).length))).toArray) (L.set i (il (.slice (some ⟨g, 0, none⟩) n c) n (ys.take k ++ (zs ++ ys.drop (k + zs.length))))) := by
  obtain ⟨hl, hcase⟩ := h.own hi
  rcases hcase with ⟨hv, -⟩ | ⟨g', cap', cur, hv, hb, hg, hnc, hcm, hcs, htake⟩
  · injection hv with h1 _ _; cases h1
  · obtain ⟨rfl, rfl⟩ : g = g' ∧ c = cap' := by
      injection hv with h1 _ h3
      injection h1 with h1
      injection h1 with h1 _ _
      exact ⟨h1, h3⟩
    clear hv
    have hyl : ys.length = n := by simpa [il, K.ints] using hl
    have hcur : n ≤ cur.size := by
      have : cur.size = c * 1 := hcs
      have : n ≤ c := hnc
      omega
    have hlen : (K.ints zs).length = zs.length := by simp [K.ints]
    have htk : cur.toList.take n = K.ints ys := by simpa [il] using htake
    have hyk : K.ints (ys.take k) = cur.toList.take k := by
      have e : K.ints (ys.take k) = (K.ints ys).take k := by simp [K.ints, List.map_take]
      rw [e, ← htk, List.take_take, Nat.min_eq_left (by omega)]
    have hyd : K.ints (ys.drop (k + zs.length)) = (cur.toList.take n).drop (k + zs.length) := by
      have e : K.ints (ys.drop (k + zs.length)) = (K.ints ys).drop (k + zs.length) := by simp [K.ints, List.map_drop]
      rw [e, ← htk]
    have hck : (cur.toList.take k).length = k := by rw [List.length_take, Array.length_toList]; omega
    rw [hlen]
    refine ⟨cur, hg, by omega, h.mark hi (grown_setRow w g _) ⟨?_, .inr ⟨g, c, _, rfl, hb, setRow_heap w g _ _ _ _ hg, hnc, hcm, ?_, ?_⟩⟩⟩
    · simp [il, K.ints]
      omega
    · show (List.toArray _).size = _
      have : cur.size = c * 1 := hcs
      simp [il]
      omega
    · show List.take (n * 1) _ = K.ints (ys.take k ++ (zs ++ ys.drop (k + zs.length)))
      have e3 : K.ints (ys.take k ++ (zs ++ ys.drop (k + zs.length))) = K.ints (ys.take k) ++ (K.ints zs ++ K.ints (ys.drop (k + zs.length))) := by simp [K.ints]
      rw [e3, hyk, hyd, Nat.mul_one]
      have e4 : (cur.toList.take n).drop (k + zs.length) = (cur.toList.drop (k + zs.length)).take (n - (k + zs.length)) := by rw [List.drop_take]
      rw [e4, List.take_append, List.take_append, hck, hlen, List.take_of_length_le (l := cur.toList.take k) (by rw [hck]; omega), List.take_of_length_le (l := K.ints zs) (by rw [hlen]; omega), Nat.sub_sub]

theorem wp_copyG {o' : Oper} {a : Act} {K : Act → World → Prop} {Q : Exit → Act → World → Prop} (d s : Operand) (t : TypeId)
    (ho : o'.op = .call { callee := .builtin .copy, args := #[d, s], argTypes := #[t, t] }) {i g n c k dl dc sl sc sb so : Nat} {ys : List Int} (zs : List Int) (hu : Tryz.prog.underlying t = some (.slice 3)) (hsz : (Tryz.prog.info? 3).map (·.size) = some 1)
    (h : St w0 w L) (hi : L[i]? = some (il (.slice (some ⟨g, 0, none⟩) n c) n ys)) (hd : a.eval d = .slice (some ⟨g, k, none⟩) dl dc) (hse : a.eval s = .slice (some ⟨sb, so, none⟩) sl sc)
    (hz : zs.length = Nat.min sl dl) (hfit : k + zs.length ≤ n) (hzs : ∀ j, j < zs.length → w.cell? ⟨sb, so + j, none⟩ = some (.int .i64 (zs.getD j 0)))
    (hK : ∀ w', St w0 w' (L.set i (il (.slice (some ⟨g, 0, none⟩) n c) n (ys.take k ++ (zs ++ ys.drop (k + zs.length))))) → K (a.put o'.dst (goInt zs.length)) w') : Oper.wp Tryz.prog o' a w K Q := by
  obtain ⟨cur, hg, hc, hS⟩ := St.splice zs h hi hfit
  have hlen : (ints zs).length = zs.length := by simp [ints]
  have hrun := run_copy_row (P := Tryz.prog) w t t o'.type 3 g k dl dc ⟨sb, so, none⟩ sl sc cur 3 (ints zs) hu hsz hg (by rw [hlen]; exact hz) (fun j v hj => by
      have hjl : j < zs.length := by
        have := (List.getElem?_eq_some_iff.1 hj).1
        simpa [ints] using this
      rw [add_at, hzs j hjl, ← hj]
      exact (ints_at zs hjl).symm) (by rw [hlen]; exact hc) (fun v hv => by
      obtain ⟨z, _, rfl⟩ := List.mem_map.1 hv
      rfl)
  unfold Oper.wp
  simp [execOp, ho, resolve, invoke, builtin, hd, hse, hrun, Result.andThen]
  rw [hlen]
  have h1 := hK _ hS
  rw [hlen] at h1
  exact h1

theorem wpList_copyG {ops : Array Oper} {rest : List Oper} {o' : Oper} {a : Act} {Q : Exit → Act → World → Prop} (hgd : o'.guard = none) (d s : Operand) (t : TypeId)
    (ho : o'.op = .call { callee := .builtin .copy, args := #[d, s], argTypes := #[t, t] }) {i g n c k dl dc sl sc sb so : Nat} {ys : List Int} (zs : List Int) (hu : Tryz.prog.underlying t = some (.slice 3)) (hsz : (Tryz.prog.info? 3).map (·.size) = some 1)
    (h : St w0 w L) (hi : L[i]? = some (il (.slice (some ⟨g, 0, none⟩) n c) n ys)) (hd : a.eval d = .slice (some ⟨g, k, none⟩) dl dc) (hse : a.eval s = .slice (some ⟨sb, so, none⟩) sl sc)
    (hz : zs.length = Nat.min sl dl) (hfit : k + zs.length ≤ n) (hzs : ∀ j, j < zs.length → w.cell? ⟨sb, so + j, none⟩ = some (.int .i64 (zs.getD j 0)))
    (hK : ∀ w', St w0 w' (L.set i (il (.slice (some ⟨g, 0, none⟩) n c) n (ys.take k ++ (zs ++ ys.drop (k + zs.length))))) → wpList Tryz.prog ops Q rest (a.put o'.dst (goInt zs.length)) w') : wpList Tryz.prog ops Q (o' :: rest) a w :=
  wpList_plain hgd fun _ hk => wp_copyG d s t ho zs hu hsz h hi hd hse hz hfit hzs fun w' h2 => hk _ _ (hK w' h2)

theorem step_copyG {ops : Array Oper} {o' : Oper} {a : Act} {K : Act → World → Prop} {Q : Exit → Act → World → Prop} {F : Prop} (hgd : o'.guard = none) (d s : Operand) (t : TypeId)
    (ho : o'.op = .call { callee := .builtin .copy, args := #[d, s], argTypes := #[t, t] }) {i g n c k dl dc sl sc sb so : Nat} {ys : List Int} (zs : List Int) (hu : Tryz.prog.underlying t = some (.slice 3)) (hsz : (Tryz.prog.info? 3).map (·.size) = some 1)
    (h : St w0 w L) (hi : L[i]? = some (il (.slice (some ⟨g, 0, none⟩) n c) n ys)) (hd : a.eval d = .slice (some ⟨g, k, none⟩) dl dc) (hse : a.eval s = .slice (some ⟨sb, so, none⟩) sl sc)
    (hz : zs.length = Nat.min sl dl) (hfit : k + zs.length ≤ n) (hzs : ∀ j, j < zs.length → w.cell? ⟨sb, so + j, none⟩ = some (.int .i64 (zs.getD j 0)))
    (hK : ∀ w', St w0 w' (L.set i (il (.slice (some ⟨g, 0, none⟩) n c) n (ys.take k ++ (zs ++ ys.drop (k + zs.length))))) → K (a.put o'.dst (goInt zs.length)) w') :
    if Region.wanted o' (yielded ops a.tmps) = true then Oper.wp Tryz.prog o' a w K Q else F := by
  have hw : Region.wanted o' (yielded ops a.tmps) = true := by simp [Region.wanted, hgd]
  rw [if_pos hw]
  exact wp_copyG d s t ho zs hu hsz h hi hd hse hz hfit hzs hK

set_option maxRecDepth 100000 in
/-- 'make([]int, n)' in a drawn region. -/
theorem upon_makeI {o' : Oper} {a : Act} {K : Act → World → Prop} {Q : Exit → Act → World → Prop} (t : TypeId) {n : Nat} {io : TypeInfo} (hu : Tryz.prog.underlying t = some (.slice 3)) (hi : Tryz.prog.info? 3 = some io) (hi0 : io.zero = some (.int .i64 0)) (hi1 : io.size = 1) (hi2 : io.bytes = 8)
    (h : St w0 w L) (hn : n ≤ 1048576)
    (hK : ∀ g w', w0.heap.size ≤ g → St w0 w' (il (.slice (some ⟨g, 0, none⟩) n n) n (List.replicate n 0) :: L) → K (a.put o'.dst (.slice (some ⟨g, 0, none⟩) n n)) w') :
    Oper.upon Tryz.prog o' a K Q ((Sem.run Tryz.prog (Instr.makeSlice t (.int .i64 (n : Int)) (.int .i64 (n : Int))) w).andThen fun a w' => Result.ok (Next.value a) w') := by
  obtain ⟨w', hrun, r1, r2⟩ := run_make_full (P := Tryz.prog) w w.heap.size t 3 io (.int .i64 0) 1 hu hi hi0 hi1 .i64 .i64 n (by rw [hi2]; omega) (by unfold maxLen; omega) (Nat.le_refl _)
  refine (congrArg (fun r => Oper.upon Tryz.prog o' a K Q (Result.andThen r fun a w' => Result.ok (Next.value a) w')) hrun).mpr ?_
  rw [zeros] at r1
  have hS := h.new ((Below.refl _ _).grown r2 (Nat.le_refl _) (by simp)) r1
  exact hK _ _ h.size hS


end


end Go.Proofs.YtffbiflgmlabaaaGreatDoor.K
