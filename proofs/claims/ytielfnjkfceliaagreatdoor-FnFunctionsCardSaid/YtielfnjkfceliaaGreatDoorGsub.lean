/-
  Submodular functions as plain mathematics: the first set with two elements that add more together.
  The contracts of spec's chapter 3: violations, submodular and increasing functions.
  The contract of spec.ViolationOf.
  The contracts of spec.IsSubmodular, IsGrounded, IsIncreasing, IsSupermodular, IsModular and IsPolymatroid.
  The contracts of impl's violates and ViolationOf.
  The contract of impl.ViolationOf.
  The contracts of impl.IsSubmodular, IsGrounded, IsIncreasing, IsSupermodular, IsModular and IsPolymatroid.
-/
import Derived.Test.YtielfnjkfceliaaGreatDoorValM
import Derived.Test.YtielfnjkfceliaaGreatDoorVal
import Derived.Test.YtielfnjkfceliaaGreatDoorFunS
import Derived.Test.YtielfnjkfceliaaGreatDoorFunS2
import Derived.Test.YtielfnjkfceliaaGreatDoorIsFnI
import Derived.WalkMore
import Derived.Test.YtielfnjkfceliaaGreatDoorFunJ
namespace Go.Proofs.YtielfnjkfceliaaGreatDoor.M
set_option linter.unusedVariables false

/-- The first one from place j on, of c places. -/
def firstSome {α : Type} (f : Nat → Option α) : Nat → Nat → Option α
  | 0, _ => none
  | c + 1, j => match f j with
    | some v => some v
    | none => firstSome f c (j + 1)
theorem fs_hit {α : Type} {f : Nat → Option α} {v : α} : ∀ (c lo j : Nat), lo ≤ j → j < lo + c → (∀ i, lo ≤ i → i < j → f i = none) → f j = some v → firstSome f c lo = some v
  | 0, lo, j, h1, h2, _, _ => absurd h2 (by omega)
  | c + 1, lo, j, h1, h2, h3, h4 => by
    by_cases e : lo = j
    · subst e
      simp [firstSome, h4]
    · rw [firstSome, h3 lo (Nat.le_refl _) (by omega)]
      exact fs_hit c (lo + 1) j (by omega) (by omega) (fun i hi hj => h3 i (by omega) hj) h4
theorem fs_none {α : Type} {f : Nat → Option α} : ∀ (c lo : Nat), (∀ i, lo ≤ i → i < lo + c → f i = none) → firstSome f c lo = none
  | 0, _, _ => rfl
  | c + 1, lo, h => by
    rw [firstSome, h lo (Nat.le_refl _) (by omega)]
    exact fs_none c (lo + 1) fun i hi hj => h i (by omega) (by omega)

/-- Do i and k, outside of s, add more to s together than one by one? -/
def bad (xs : List Int) (s i k : Nat) : Bool := !s.testBit i && (!s.testBit k && decide (xs.getD (s ||| 2 ^ i) 0 + xs.getD (s ||| 2 ^ k) 0 < xs.getD (s ||| 2 ^ i ||| 2 ^ k) 0 + xs.getD s 0))
def violK (n : Nat) (xs : List Int) (s i : Nat) : Option (List Int) := firstSome (fun k => if bad xs s i k = true then some [(s : Int), (i : Int), (k : Int)] else none) (n - (i + 1)) (i + 1)
def violI (n : Nat) (xs : List Int) (s : Nat) : Option (List Int) := firstSome (violK n xs s) n 0
def violS (n : Nat) (xs : List Int) : Option (List Int) := firstSome (violI n xs) xs.length 0
/-- The first violation, and whether there is one. -/
def viol (n : Int) (xs : List Int) : List Int × Bool := if isFn n xs = true then match violS n.toNat xs with
    | some l => (l, true)
    | none => ([], false)
  else ([], false)
theorem viol_hit {n : Nat} {xs : List Int} {s i k : Nat} (hf : isFn (n : Int) xs = true) (hs : s < xs.length) (hi : i < n) (hk : k < n) (hik : i < k)
    (h1 : ∀ s', s' < s → violI n xs s' = none) (h2 : ∀ i', i' < i → violK n xs s i' = none) (h3 : ∀ k', i < k' → k' < k → bad xs s i k' = false) (hb : bad xs s i k = true) :
    viol (n : Int) xs = ([(s : Int), (i : Int), (k : Int)], true) := by
  have e1 : violK n xs s i = some [(s : Int), (i : Int), (k : Int)] := fs_hit _ _ k (by omega) (by omega) (fun j hj hjk => by rw [if_neg]; rw [h3 j (by omega) hjk]; decide) (if_pos hb)
  have e2 : violI n xs s = some [(s : Int), (i : Int), (k : Int)] := fs_hit _ _ i (by omega) (by omega) (fun j _ hj => h2 j hj) e1
  have e3 : violS n xs = some [(s : Int), (i : Int), (k : Int)] := fs_hit _ _ s (by omega) (by omega) (fun j _ hj => h1 j hj) e2
  unfold viol
  rw [if_pos hf, Int.toNat_natCast, e3]
theorem viol_none {n : Nat} {xs : List Int} (h1 : ∀ s', s' < xs.length → violI n xs s' = none) : viol (n : Int) xs = ([], false) := by
  have e3 : violS n xs = none := fs_none _ _ fun i _ hi => h1 i (by omega)
  unfold viol
  split
  · rw [Int.toNat_natCast, e3]
  · rfl
theorem violK_none {n : Nat} {xs : List Int} {s i : Nat} (h3 : ∀ k', i < k' → k' < n → bad xs s i k' = false) : violK n xs s i = none :=
  fs_none _ _ fun j hj hjn => by rw [if_neg]; rw [h3 j (by omega) (by omega)]; decide
theorem violI_none {n : Nat} {xs : List Int} {s : Nat} (h2 : ∀ i', i' < n → violK n xs s i' = none) : violI n xs s = none := fs_none _ _ fun i _ hi => h2 i (by omega)
theorem viol_no {n : Int} {xs : List Int} (h : isFn n xs = false) : viol n xs = ([], false) := by
  unfold viol
  rw [if_neg (by rw [h]; decide)]
theorem viol_len (n : Int) (xs : List Int) : (viol n xs).1.length ≤ 3 := by
  unfold viol
  split
  · split
    · rename_i l h
      have : ∀ {α : Type} {P : α → Prop} {f : Nat → Option α} (hf : ∀ j v, f j = some v → P v) (c lo : Nat) (v : α), firstSome f c lo = some v → P v := by
        intro α P f hf c
        induction c with
        | zero => intro lo v hv; cases hv
        | succ c ih =>
          intro lo v hv
          rw [firstSome] at hv
          split at hv
          · rename_i u hu
            injection hv with hv
            subst hv
            exact hf lo _ hu
          · exact ih _ _ hv
      have hl : l.length ≤ 3 := this (P := fun l : List Int => l.length ≤ 3) (fun s v hv => this (P := fun l : List Int => l.length ≤ 3) (fun i v hv => this (P := fun l : List Int => l.length ≤ 3) (fun k v hv => by
        split at hv
        · injection hv with hv; subst hv; simp
        · cases hv) _ _ v hv) _ _ v hv) _ _ l h
      exact hl
    · simp
  · simp
/-- Whether it is submodular, increasing, and so on. -/
def isSub (n : Int) (xs : List Int) : Bool := isFn n xs && !(viol n xs).2
def isSuper (n : Int) (xs : List Int) : Bool := (scaleFn n xs (-1)).2.2 && isSub (scaleFn n xs (-1)).1 (scaleFn n xs (-1)).2.1
def isMod (n : Int) (xs : List Int) : Bool := isSub n xs && isSuper n xs
def isGround (n : Int) (xs : List Int) : Bool := isFn n xs && decide (xs.getD 0 0 = 0)
/-- No element takes from a set: all sets below s, all elements below i. -/
def incAt (xs : List Int) (s i : Nat) : Bool := decide (xs.getD s 0 ≤ xs.getD (s ||| 2 ^ i) 0)
def isInc (n : Int) (xs : List Int) : Bool := isFn n xs && (List.range xs.length).all fun s => (List.range n.toNat).all fun i => incAt xs s i
def isPoly (n : Int) (xs : List Int) : Bool := isGround n xs && (isInc n xs && isSub n xs)
/-- The weights of a set, added up. -/
def weigh (ws : List Int) (s : Nat) : Nat → Int
  | 0 => 0
  | i + 1 => if s.testBit i = true then weigh ws s i + ws.getD i 0 else weigh ws s i
def modFn (ws : List Int) (c : Int) : Int × List Int × Bool :=
  if ws.length ≤ 5 ∧ -1000 ≤ c ∧ c ≤ 1000 ∧ ∀ x ∈ ws, -1000 ≤ x ∧ x ≤ 1000 then made (ws.length : Int) (tab (2 ^ ws.length) fun s => c + weigh ws s ws.length) else (0, [], false)
theorem modFn_len (ws : List Int) (c : Int) : (modFn ws c).2.1.length ≤ 32 := by
  unfold modFn; split <;> first | exact made_len _ _ | exact Nat.zero_le _

end Go.Proofs.YtielfnjkfceliaaGreatDoor.M

namespace Go.Proofs.YtielfnjkfceliaaGreatDoor.C
open Go.RowKit K M
set_option linter.unusedVariables false
set_option linter.unusedSimpArgs false

/-- A place of a set, asked for as 's>>i&1': as the walk spells it. -/
theorem bit_val (s i : Nat) (hs : s < 4294967296) : bits .and .i64 ((s : Int) / 2 ^ i) 1 = if s.testBit i = true then 1 else 0 := by
  have e : ((s : Int) / 2 ^ i) = ((s / 2 ^ i : Nat) : Int) := by simp
  have hle : s / 2 ^ i ≤ s := Nat.div_le_self _ _
  have h1 : (BitVec.ofInt 64 1).toNat = 2 ^ 1 - 1 := by decide
  have ofI : (BitVec.ofInt 64 ((s / 2 ^ i : Nat) : Int)).toNat = s / 2 ^ i := by
    rw [BitVec.ofInt_natCast, BitVec.toNat_ofNat]; exact Nat.mod_eq_of_lt (by omega)
  rw [e]
  show IntKind.i64.wrap ((BitVec.ofInt 64 ((s / 2 ^ i : Nat) : Int) &&& BitVec.ofInt 64 1).toNat : Int) = _
  rw [BitVec.toNat_and, ofI, h1, Nat.and_two_pow_sub_one_eq_mod, IntKind.wrap_i64, Nat.testBit_eq_decide_div_mod_eq]
  by_cases h : s / 2 ^ i % 2 = 1
  · simp [h]
  · have h0 : s / 2 ^ i % 2 = 0 := by omega
    simp [h0]
theorem or_nat (s i : Nat) (hs : s < 4294967296) (hi : i ≤ 30) : bits .or .i64 (s : Int) (wrap64 (2 ^ i)) = ((s ||| 2 ^ i : Nat) : Int) := by
  have := or_shl (s := (s : Int)) (e := (i : Int)) (by omega) (by omega) (by omega) (by omega)
  simpa [withE] using this

set_option maxRecDepth 100000 in
set_option maxHeartbeats 1600000 in
theorem badS_any (A : Option Addr) (xs : List Int) (cap s i k n : Nat) (w : World) (h : Hid (Ints w w.heap.size A xs)) (hf : isFn (n : Int) xs = true) (hs : s < xs.length) (hi : i < n) (hk : k < n) :
    Calls Tryz.prog 66 #[.slice A xs.length cap, .int .i64 s, .int .i64 i, .int .i64 k] w fun e w' => e = .returned (.bool (decide (xs.getD (s ||| 2 ^ i) 0 + xs.getD (s ||| 2 ^ k) 0 < xs.getD (s ||| 2 ^ i ||| 2 ^ k) 0 + xs.getD s 0))) ∧ ∃ q, w.drewN q = w' := by
  obtain ⟨h0, h5, hl, hv⟩ := isFn_yes hf
  rw [Int.toNat_natCast] at hl
  have hm := (isFn_len hf).2
  have hsn : s < 2 ^ n := by omega
  have hin : 2 ^ i < 2 ^ n := Nat.pow_lt_pow_right (by decide) hi
  have hkn : 2 ^ k < 2 ^ n := Nat.pow_lt_pow_right (by decide) hk
  have a1 := Nat.or_lt_two_pow hsn hin
  have a2 := Nat.or_lt_two_pow hsn hkn
  have a3 := Nat.or_lt_two_pow a1 hkn
  rw [← hl] at a1 a2 a3
  have o1 := or_nat s i (by omega) (by omega)
  have o2 := or_nat s k (by omega) (by omega)
  have o3 := or_nat (s ||| 2 ^ i) k (by omega) (by omega)
  obtain ⟨b, off, rfl, hbl, hc⟩ := h.out (by omega)
  have c0 := hc s hs
  have c1 := hc _ a1
  have c2 := hc _ a2
  have c3 := hc _ a3
  obtain ⟨u0, v0⟩ := hv s hs
  obtain ⟨u1, v1⟩ := hv _ a1
  obtain ⟨u2, v2⟩ := hv _ a2
  obtain ⟨u3, v3⟩ := hv _ a3
  clear hc hv hl hsn hin hkn hf
  generalize s ||| 2 ^ i ||| 2 ^ k = j3 at *
  generalize s ||| 2 ^ i = j1 at *
  generalize s ||| 2 ^ k = j2 at *
  generalize xs.getD s 0 = x0 at *
  generalize xs.getD j1 0 = x1 at *
  generalize xs.getD j2 0 = x2 at *
  generalize xs.getD j3 0 = x3 at *
  generalize xs.length = m at *
  have s0 : (0 : Int) ≤ (s : Int) := by omega
  have s1 : (s : Int) < (m : Int) := by omega
  have t1 : (j1 : Int) < (m : Int) := by omega
  have t2 : (j2 : Int) < (m : Int) := by omega
  have t3 : (j3 : Int) < (m : Int) := by omega
  have p1 : (0 : Int) ≤ (j1 : Int) := by omega
  have p2 : (0 : Int) ≤ (j2 : Int) := by omega
  have p3 : (0 : Int) ≤ (j3 : Int) := by omega
  have i0 : (0 : Int) ≤ (i : Int) := by omega
  have i1 : (i : Int) ≤ 5 := by omega
  have k0 : (0 : Int) ≤ (k : Int) := by omega
  have k1 : (k : Int) ≤ 5 := by omega
  have w1 : IntKind.i64.wrap (x1 + x2) = x1 + x2 := IntWalk.i64_in _ (by omega)
  have w2 : IntKind.i64.wrap (x3 + x0) = x3 + x0 := IntWalk.i64_in _ (by omega)
  clear h
  go_enter Tryz.func66, Tryz.ntmps66
  go_wp2
  go_quiet (fail)
  go_wp2
  go_ret
  exact ⟨rfl, _, rfl⟩

end Go.Proofs.YtielfnjkfceliaaGreatDoor.C

namespace Go.Proofs.YtielfnjkfceliaaGreatDoor.C
open Go.RowKit K M
set_option linter.unusedVariables false
set_option linter.unusedSimpArgs false

theorem _root_.Go.Proofs.YtielfnjkfceliaaGreatDoor.K.St.lit3 {w0 w : World} {L : List Cel} (h : St w0 w L) (x y z : Int) : St w0 (w.alloc (.cells #[.int .i64 x, .int .i64 y, .int .i64 z] 3)) (il (.slice (some ⟨w.heap.size, 0, none⟩) 3 3) 3 [x, y, z] :: L) := by
  refine h.new ((Below.refl _ _).alloc (Nat.le_refl _) _) ?_
  exact World.ownsRow_lit w #[.int .i64 x, .int .i64 y, .int .i64 z] 3 (Nat.le_refl _) (by unfold maxLen; omega) (by simp)

set_option maxRecDepth 100000 in
set_option maxHeartbeats 1600000 in
theorem violS_bad (n : Int) (A : Option Addr) (xs : List Int) (cap : Nat) (w : World) (h : Hid (Ints w w.heap.size A xs)) (hf : isFn n xs = false) :
    Calls Tryz.prog 42 #[.agg #[.int .i64 n, .slice A xs.length cap]] w (RetIB w [] false) := by
  have HW := Lib.hid (St.start w)
  have HF := Lib.hid hf
  clear hf
  go_enter Tryz.func42, Tryz.ntmps42
  go_wp2
  go_loopw [4] (fun i wr => i = .int .i64 0 ∧ St w wr [bx w.heap.size 26 [.int .i64 n, .slice A xs.length cap]]) (fun _ _ => 0)
  case atStart => exact ⟨rfl, HW.out.alloc _ _⟩
  case round =>
    obtain ⟨rfl, hS⟩ := hrel
    obtain ⟨b0, -⟩ := hS.box (i := 0) rfl
    have b00 := b0 0 _ rfl
    have b01 := b0 1 _ rfl
    have bl := (hS.lt (i := 0) rfl).2
    have HS := Lib.hid hS
    clear b0 hS
    go_wp2_with (go_at_call 15; refine St.use (w0 := w) (by exact HS.out) ?_; intro hS; refine (isFnS_no n A xs cap _ (Lib.hid ((h.out.below hS.base).mono hS.size)) HF.out).mono ?_; rintro e w1 ⟨rfl, hb⟩; have HS1 := Lib.hid (hS.below hb); clear hS hb)
    go_ret2
    exact ⟨_, _, rfl, HS1.out.empty.ownI (i := 0) rfl, HS1.out.empty.base⟩
set_option maxRecDepth 100000 in
set_option maxHeartbeats 8000000 in
theorem violS_good (N : Nat) (A : Option Addr) (xs : List Int) (cap : Nat) (w : World) (h : Hid (Ints w w.heap.size A xs)) (hf : isFn (N : Int) xs = true) :
    Calls Tryz.prog 42 #[.agg #[.int .i64 N, .slice A xs.length cap]] w (RetIB w (viol (N : Int) xs).1 (viol (N : Int) xs).2) := by
  have HW := Lib.hid (St.start w)
  have HF := Lib.hid hf
  have hn5 : N ≤ 5 := by have := (isFn_yes hf).2.1; omega
  have hl2 := (isFn_len hf).2
  obtain ⟨m, hxm⟩ : ∃ m, xs.length = m := ⟨_, rfl⟩
  have h' := Lib.hid (show ∀ W, Ints W W.heap.size A xs → Calls Tryz.prog 15 #[.agg #[.int .i64 N, .slice A m cap]] W (RetV W (.bool true)) from fun W hW => by rw [← hxm]; exact isFnS_yes N A xs cap W (Lib.hid hW) hf)
  have hb' := Lib.hid (show ∀ W (s i k : Nat), Ints W W.heap.size A xs → s < m → i < N → k < N → Calls Tryz.prog 66 #[.slice A m cap, .int .i64 s, .int .i64 i, .int .i64 k] W fun e w' => e = .returned (.bool (decide (xs.getD (s ||| 2 ^ i) 0 + xs.getD (s ||| 2 ^ k) 0 < xs.getD (s ||| 2 ^ i ||| 2 ^ k) 0 + xs.getD s 0))) ∧ ∃ q, W.drewN q = w' from fun W s i k hW hs hi hk => by rw [← hxm]; exact badS_any A xs cap s i k N W (Lib.hid hW) hf (by omega) hi hk)
  rw [hxm] at hl2 ⊢
  have HX := Lib.hid hxm
  clear hf hxm
  go_enter Tryz.func42, Tryz.ntmps42
  go_wp2
  go_loopw [4] (fun i wr => ∃ s : Nat, i = .int .i64 s ∧ s ≤ m ∧ Hid (∀ s', s' < s → violI N xs s' = none) ∧ St w wr [bx w.heap.size 26 [.int .i64 N, .slice A m cap]]) (fun i _ => m - (intOf i).toNat)
  case atStart => exact ⟨0, rfl, Nat.zero_le _, Lib.hid (fun s' hs' => absurd hs' (by omega)), HW.out.alloc _ _⟩
  case round =>
    obtain ⟨s, rfl, hsm, hno, hS⟩ := hrel
    obtain ⟨b0, -⟩ := hS.box (i := 0) rfl
    have b00 := b0 0 _ rfl
    have b01 := b0 1 _ rfl
    have bl := (hS.lt (i := 0) rfl).2
    have HS := Lib.hid hS
    clear b0 hS
    by_cases hlt : s < m
    · have hsi : (s : Int) < (m : Int) := by omega
      go_wp2_with (go_at_call 15; refine St.use (w0 := w) (by exact HS.out) ?_; intro hS; refine (h'.out _ ((h.out.below hS.base).mono hS.size)).mono ?_; rintro e w1 ⟨rfl, hb⟩; have hS1 := hS.below hb; obtain ⟨c0, -⟩ := hS1.box (i := 0) rfl; have c00 := c0 0 _ rfl; have c01 := c0 1 _ rfl; have HS1 := Lib.hid hS1; clear hS hb hS1 c0)
      clear b00 b01
      obtain ⟨wo, rfl⟩ : ∃ wo : World, wo = wr := ⟨_, rfl⟩
      go_loopw [5] (fun x wr => ∃ i : Nat, x = .int .i64 i ∧ i ≤ N ∧ Hid (∀ i', i' < i → violK N xs s i' = none) ∧ St w wr [bx w.heap.size 26 [.int .i64 N, .slice A m cap]]) (fun x _ => N - (intOf x).toNat)
      case atStart => exact ⟨0, rfl, Nat.zero_le _, Lib.hid (fun i' hi' => absurd hi' (by omega)), HS1.out⟩
      case round =>
        obtain ⟨i, rfl, hiN, hno2, hS⟩ := hrel
        obtain ⟨b0, -⟩ := hS.box (i := 0) rfl
        have b00 := b0 0 _ rfl
        have b01 := b0 1 _ rfl
        have HS2 := Lib.hid hS
        clear b0 hS
        by_cases hlt2 : i < N
        · have hii : (i : Int) < (N : Int) := by omega
          go_wp2
          clear b00 b01
          obtain ⟨wo2, rfl⟩ : ∃ wo : World, wo = wr := ⟨_, rfl⟩
          go_loopw [6] (fun x wr => ∃ k : Nat, x = .int .i64 k ∧ k ≤ N ∧ i < k ∧ Hid (∀ k', i < k' → k' < k → bad xs s i k' = false) ∧ St w wr [bx w.heap.size 26 [.int .i64 N, .slice A m cap]]) (fun x _ => N - (intOf x).toNat)
          case atStart => exact ⟨i + 1, by go_num, by omega, by omega, Lib.hid (fun k' h1 h2 => absurd h2 (by omega)), HS2.out⟩
          case round =>
            obtain ⟨k, rfl, hkN, hik, hno3, hS⟩ := hrel
            obtain ⟨b0, -⟩ := hS.box (i := 0) rfl
            have b00 := b0 0 _ rfl
            have b01 := b0 1 _ rfl
            have HS3 := Lib.hid hS
            clear b0 hS
            by_cases hlt3 : k < N
            · have hki : (k : Int) < (N : Int) := by omega
              have hi0 : (0 : Int) ≤ (i : Int) := by omega
              have hk0 : (0 : Int) ≤ (k : Int) := by omega
              have e1 := bit_val s i (by omega)
              have e2 := bit_val s k (by omega)
              have nextR := Lib.hid (show bad xs s i k = false → ∀ k', i < k' → k' < k + 1 → bad xs s i k' = false from fun hb k' h1 h2 => by
                by_cases e : k' = k
                · subst e; exact hb
                · exact hno3.out k' h1 (by omega))
              by_cases t1 : s.testBit i = true
              · have hbad := nextR.out (by simp [bad, t1])
                have HB := Lib.hid hbad
                rw [if_pos t1] at e1
                clear hbad nextR e2
                go_wp2
                go_roundw
                case rel => exact ⟨k + 1, by go_num, by omega, by omega, HB, HS3.out⟩
                case measure => simp [intOf]; omega
              · by_cases t2 : s.testBit k = true
                · have hbad := nextR.out (by simp [bad, t2])
                  have HB := Lib.hid hbad
                  rw [if_neg t1] at e1
                  rw [if_pos t2] at e2
                  clear hbad nextR
                  go_wp2
                  go_roundw
                  case rel => exact ⟨k + 1, by go_num, by omega, by omega, HB, HS3.out⟩
                  case measure => simp [intOf]; omega
                · rw [if_neg t1] at e1
                  rw [if_neg t2] at e2
                  have hc := fun W (hW : Ints W W.heap.size A xs) => hb'.out W s i k hW hlt hlt2 hlt3
                  have heq : bad xs s i k = decide (xs.getD (s ||| 2 ^ i) 0 + xs.getD (s ||| 2 ^ k) 0 < xs.getD (s ||| 2 ^ i ||| 2 ^ k) 0 + xs.getD s 0) := by simp [bad, t1, t2]
                  rw [← heq] at hc
                  clear heq
                  have HC := Lib.hid hc
                  clear hc
                  cases hbk : bad xs s i k
                  · have hbad := nextR.out hbk
                    have HB := Lib.hid hbad
                    rw [hbk] at HC
                    clear hbad nextR hbk
                    go_wp2_with (go_at_call 66; refine St.use (w0 := w) (by first | exact HS3.out | exact HS3.out.drew | exact HS3.out.drewN _) ?_; intro hS; refine (HC.out _ ((h.out.below hS.base).mono hS.size)).mono ?_; rintro e w1 ⟨rfl, q, rfl⟩; clear hS)
                    go_roundw
                    case rel => exact ⟨k + 1, by go_num, by omega, by omega, HB, HS3.out.drewN _⟩
                    case measure => simp [intOf]; omega
                  · have hv := viol_hit (HF.out) (s := s) (i := i) (k := k) (by rw [HX.out]; omega) hlt2 hlt3 hik hno.out hno2.out hno3.out hbk
                    have HV := Lib.hid hv
                    rw [hbk] at HC
                    clear hv nextR hbk
                    go_wp2_with (go_at_call 66; refine St.use (w0 := w) (by first | exact HS3.out | exact HS3.out.drew | exact HS3.out.drewN _) ?_; intro hS; refine (HC.out _ ((h.out.below hS.base).mono hS.size)).mono ?_; rintro e w1 ⟨rfl, q, rfl⟩; clear hS)
                    go_ret2
                    rw [HV.out]
                    have hE := (HS3.out.drewN q).lit3 (s : Int) (i : Int) (k : Int)
                    exact ⟨_, _, rfl, hE.ownI (i := 0) rfl, hE.base⟩
            · obtain rfl : k = N := by omega
              have hkn : ¬ (k : Int) < (k : Int) := by omega
              go_wp2
              go_roundw
              case rel => exact ⟨i + 1, by go_num, by omega, Lib.hid (fun i' hi' => by
                by_cases e : i' = i
                · subst e; exact violK_none fun k' h1 h2 => hno3.out k' h1 h2
                · exact hno2.out i' (by omega)), HS3.out⟩
              case measure => simp [intOf]; omega
        · obtain rfl : i = N := by omega
          have hin : ¬ (i : Int) < (i : Int) := by omega
          go_wp2
          go_roundw
          case rel => exact ⟨s + 1, by go_num, by omega, Lib.hid (fun s' hs' => by
            by_cases e : s' = s
            · subst e; exact violI_none hno2.out
            · exact hno.out s' (by omega)), HS2.out⟩
          case measure => simp [intOf]; omega
    · obtain rfl : s = m := by omega
      have hsn : ¬ (s : Int) < (s : Int) := by omega
      have hv := viol_none (n := N) (xs := xs) fun s' hs' => hno.out s' (by rw [HX.out] at hs'; exact hs')
      have HV := Lib.hid hv
      clear hv
      go_wp2_with (go_at_call 15; refine St.use (w0 := w) (by exact HS.out) ?_; intro hS; refine (h'.out _ ((h.out.below hS.base).mono hS.size)).mono ?_; rintro e w1 ⟨rfl, hb⟩; have hS1 := hS.below hb; obtain ⟨c0, -⟩ := hS1.box (i := 0) rfl; have c00 := c0 0 _ rfl; have c01 := c0 1 _ rfl; have HS1 := Lib.hid hS1; clear hS hb hS1 c0)
      go_ret2
      rw [HV.out]
      exact ⟨_, _, rfl, HS1.out.empty.ownI (i := 0) rfl, HS1.out.empty.base⟩

theorem violS_any (n : Int) (A : Option Addr) (xs : List Int) (cap : Nat) (w : World) (h : Hid (Ints w w.heap.size A xs)) :
    Calls Tryz.prog 42 #[.agg #[.int .i64 n, .slice A xs.length cap]] w (RetIB w (viol n xs).1 (viol n xs).2) := by
  cases hf : isFn n xs
  · rw [viol_no hf]
    exact violS_bad n A xs cap w h hf
  · obtain ⟨N, rfl⟩ := Int.eq_ofNat_of_zero_le (isFn_yes hf).1
    exact violS_good N A xs cap w h hf

end Go.Proofs.YtielfnjkfceliaaGreatDoor.C

namespace Go.Proofs.YtielfnjkfceliaaGreatDoor.C
open Go.RowKit K M
set_option linter.unusedVariables false
set_option linter.unusedSimpArgs false


section

variable (n : Int) (A : Option Addr) (xs : List Int) (cap : Nat) (w : World) (h : Hid (Ints w w.heap.size A xs))
include h

theorem subS_any : Calls Tryz.prog 9 #[.agg #[.int .i64 n, .slice A xs.length cap]] w (RetV w (.bool (isSub n xs))) := by
  have HW := Lib.hid (St.start w)
  unfold isSub
  obtain ⟨rx, rb, hr⟩ : ∃ rx rb, viol n xs = (rx, rb) := ⟨_, _, rfl⟩
  rw [hr]
  have hv := fun W (hW : Hid (Ints W W.heap.size A xs)) => violS_any n A xs cap W hW
  rw [hr] at hv
  have HV := Lib.hid hv
  clear hv hr
  obtain ⟨f, hf⟩ : ∃ f, isFn n xs = f := ⟨_, rfl⟩
  have hg := fun W (hW : Hid (Ints W W.heap.size A xs)) => isFnS_any n A xs cap W hW
  rw [hf] at hg ⊢
  have HG := Lib.hid hg
  clear hg hf
  dsimp only
  go_enter Tryz.func9, Tryz.ntmps9
  go_wp2_with fail
  refine St.use (w0 := w) (by exact HW.out.alloc _ _) ?_
  intro hS
  refine (HV.out _ (Lib.hid ((h.out.below hS.base).mono hS.size))).mono ?_
  rintro e w1 ⟨A1, c1, rfl, ho, hb⟩
  have hS1 := hS.below hb
  obtain ⟨b0, -⟩ := hS1.box (i := 0) rfl
  have b00 := b0 0 _ rfl
  have b01 := b0 1 _ rfl
  have HS1 := Lib.hid hS1
  clear hS hb b0 hS1 ho
  cases f <;> cases rb
  all_goals
    go_wp2_with (go_at_call 15; refine St.use (w0 := w) (by exact HS1.out) ?_; intro hS; refine (HG.out _ (Lib.hid ((h.out.below hS.base).mono hS.size))).mono ?_; rintro e w2 ⟨rfl, hb⟩; have HS2 := Lib.hid (hS.below hb); clear hS hb)
    go_ret
    exact ⟨rfl, HS2.out.base⟩

end


end Go.Proofs.YtielfnjkfceliaaGreatDoor.C

namespace Go.Proofs.YtielfnjkfceliaaGreatDoor.C
open Go.RowKit K M
set_option linter.unusedVariables false
set_option linter.unusedSimpArgs false

theorem or_in {s i : Nat} (h : s.testBit i = true) : s ||| 2 ^ i = s := by
  apply Nat.eq_of_testBit_eq
  intro j
  rw [Nat.testBit_or, Nat.testBit_two_pow]
  by_cases e : i = j
  · subst e; simp [h]
  · simp [e]
theorem or_swap (s i k : Nat) : s ||| 2 ^ i ||| 2 ^ k = s ||| 2 ^ k ||| 2 ^ i := by
  apply Nat.eq_of_testBit_eq
  intro j
  simp only [Nat.testBit_or]
  cases s.testBit j <;> cases (2 ^ i).testBit j <;> cases (2 ^ k).testBit j <;> rfl
/-- The test without a look at whether the elements are in the set. -/
theorem bad_plain (xs : List Int) (s i k : Nat) : decide (xs.getD (s ||| 2 ^ i) 0 + xs.getD (s ||| 2 ^ k) 0 < xs.getD (s ||| 2 ^ i ||| 2 ^ k) 0 + xs.getD s 0) = bad xs s i k := by
  unfold bad
  cases h1 : s.testBit i
  · cases h2 : s.testBit k
    · simp
    · rw [or_swap, or_in h2]
      simp
  · rw [or_in h1]
    simp
    omega

set_option maxRecDepth 100000 in
set_option maxHeartbeats 1600000 in
theorem vioI_any (A : Option Addr) (xs : List Int) (cap s i k n : Nat) (w : World) (h : Hid (Ints w w.heap.size A xs)) (hf : isFn (n : Int) xs = true) (hs : s < xs.length) (hi : i < n) (hk : k < n) :
    Calls Tryz.prog 67 #[.agg #[.int .i64 n, .slice A xs.length cap], .int .i64 s, .int .i64 i, .int .i64 k] w (RetV w (.bool (bad xs s i k))) := by
  rw [← bad_plain]
  have HW := Lib.hid (St.start w)
  obtain ⟨h0, h5, hl, hv⟩ := isFn_yes hf
  rw [Int.toNat_natCast] at hl
  have hm := (isFn_len hf).2
  have hsn : s < 2 ^ n := by omega
  have hin : 2 ^ i < 2 ^ n := Nat.pow_lt_pow_right (by decide) hi
  have hkn : 2 ^ k < 2 ^ n := Nat.pow_lt_pow_right (by decide) hk
  have a1 := Nat.or_lt_two_pow hsn hin
  have a2 := Nat.or_lt_two_pow hsn hkn
  have a3 := Nat.or_lt_two_pow a1 hkn
  rw [← hl] at a1 a2 a3
  have q1 : ∀ W, Calls Tryz.prog 53 #[.int .i64 s, .int .i64 i] W fun e' w' => e' = .returned (.int .i64 (s ||| 2 ^ i : Nat)) ∧ W = w' := fun W => with_any (s : Int) (i : Int) W (by omega) (by omega) (by omega) (by omega)
  have q2 : ∀ W, Calls Tryz.prog 53 #[.int .i64 s, .int .i64 k] W fun e' w' => e' = .returned (.int .i64 (s ||| 2 ^ k : Nat)) ∧ W = w' := fun W => with_any (s : Int) (k : Int) W (by omega) (by omega) (by omega) (by omega)
  have q3 : ∀ W, Calls Tryz.prog 53 #[.int .i64 (s ||| 2 ^ i : Nat), .int .i64 k] W fun e' w' => e' = .returned (.int .i64 (s ||| 2 ^ i ||| 2 ^ k : Nat)) ∧ W = w' := fun W => with_any ((s ||| 2 ^ i : Nat) : Int) (k : Int) W (by omega) (by omega) (by omega) (by omega)
  obtain ⟨b, off, rfl, hbl, hc⟩ := h.out (by omega)
  have c0 := hc s hs
  have c1 := hc _ a1
  have c2 := hc _ a2
  have c3 := hc _ a3
  obtain ⟨u0, v0⟩ := hv s hs
  obtain ⟨u1, v1⟩ := hv _ a1
  obtain ⟨u2, v2⟩ := hv _ a2
  obtain ⟨u3, v3⟩ := hv _ a3
  clear hc hv hl hsn hin hkn hf
  generalize s ||| 2 ^ i ||| 2 ^ k = j3 at *
  generalize s ||| 2 ^ i = j1 at *
  generalize s ||| 2 ^ k = j2 at *
  have Q1 := Lib.hid q1
  have Q2 := Lib.hid q2
  have Q3 := Lib.hid q3
  generalize xs.getD s 0 = x0 at *
  generalize xs.getD j1 0 = x1 at *
  generalize xs.getD j2 0 = x2 at *
  generalize xs.getD j3 0 = x3 at *
  generalize xs.length = m at *
  have s0 : (0 : Int) ≤ (s : Int) := by omega
  have s1 : (s : Int) < (m : Int) := by omega
  have t1 : (j1 : Int) < (m : Int) := by omega
  have t2 : (j2 : Int) < (m : Int) := by omega
  have t3 : (j3 : Int) < (m : Int) := by omega
  have p1 : (0 : Int) ≤ (j1 : Int) := by omega
  have p2 : (0 : Int) ≤ (j2 : Int) := by omega
  have p3 : (0 : Int) ≤ (j3 : Int) := by omega
  have w1 : IntKind.i64.wrap (x1 + x2) = x1 + x2 := IntWalk.i64_in _ (by omega)
  have w2 : IntKind.i64.wrap (x3 + x0) = x3 + x0 := IntWalk.i64_in _ (by omega)
  clear h q1 q2 q3
  go_enter Tryz.func67, Tryz.ntmps67
  go_wp2
  go_quiet ((go_at_call 53; first | exact quiet_left (Q1.out _) | exact quiet_left (Q2.out _) | exact quiet_left (Q3.out _) | exact quiet_add_left (Q1.out _) | exact quiet_add_left (Q2.out _) | exact quiet_add_left (Q3.out _)))
  go_wp2
  go_ret
  exact ⟨rfl, ((HW.out.alloc _ _).drewN _).base⟩


end Go.Proofs.YtielfnjkfceliaaGreatDoor.C

namespace Go.Proofs.YtielfnjkfceliaaGreatDoor.C
open Go.RowKit K M
set_option linter.unusedVariables false
set_option linter.unusedSimpArgs false

set_option maxRecDepth 100000 in
set_option maxHeartbeats 1600000 in
theorem violI_bad (n : Int) (A : Option Addr) (xs : List Int) (cap : Nat) (w : World) (h : Hid (Ints w w.heap.size A xs)) (hf : isFn n xs = false) :
    Calls Tryz.prog 43 #[.agg #[.int .i64 n, .slice A xs.length cap]] w (RetIB w [] false) := by
  have HW := Lib.hid (St.start w)
  have HF := Lib.hid hf
  clear hf
  go_enter Tryz.func43, Tryz.ntmps43
  go_wp2
  go_step3
  go_wp2_with fail
  refine St.use (w0 := w) (by exact HW.out.alloc _ _) ?_
  intro hS
  refine (isFnI_no n A xs cap _ (Lib.hid ((h.out.below hS.base).mono hS.size)) HF.out).mono ?_
  rintro e w1 ⟨rfl, hb⟩
  have HS1 := Lib.hid (hS.below hb)
  clear hS hb
  go_wp2
  rw [Exit.noGoto_ret]
  go_ret2
  exact ⟨_, _, rfl, HS1.out.nil.ownI (i := 0) rfl, HS1.out.nil.base⟩

set_option maxRecDepth 100000 in
set_option maxHeartbeats 8000000 in
theorem violI_good (N : Nat) (A : Option Addr) (xs : List Int) (cap : Nat) (w : World) (h : Hid (Ints w w.heap.size A xs)) (hf : isFn (N : Int) xs = true) :
    Calls Tryz.prog 43 #[.agg #[.int .i64 N, .slice A xs.length cap]] w (RetIB w (viol (N : Int) xs).1 (viol (N : Int) xs).2) := by
  have HW := Lib.hid (St.start w)
  have HF := Lib.hid hf
  have hn5 : N ≤ 5 := by have := (isFn_yes hf).2.1; omega
  have hl2 := (isFn_len hf).2
  obtain ⟨m, hxm⟩ : ∃ m, xs.length = m := ⟨_, rfl⟩
  have h' := Lib.hid (show ∀ W, Ints W W.heap.size A xs → Calls Tryz.prog 14 #[.agg #[.int .i64 N, .slice A m cap]] W (RetV W (.bool true)) from fun W hW => by rw [← hxm]; exact isFnI_yes N A xs cap W (Lib.hid hW) hf)
  have hb' := Lib.hid (show ∀ W (s i k : Nat), Ints W W.heap.size A xs → s < m → i < N → k < N → Calls Tryz.prog 67 #[.agg #[.int .i64 N, .slice A m cap], .int .i64 s, .int .i64 i, .int .i64 k] W (RetV W (.bool (bad xs s i k))) from fun W s i k hW hs hi hk => by rw [← hxm]; exact vioI_any A xs cap s i k N W (Lib.hid hW) hf (by omega) hi hk)
  rw [hxm] at hl2 ⊢
  have HX := Lib.hid hxm
  clear hf hxm
  go_enter Tryz.func43, Tryz.ntmps43
  go_wp2
  go_step3
  go_wp2_with fail
  refine St.use (w0 := w) (by exact HW.out.alloc _ _) ?_
  intro hS
  refine (h'.out _ ((h.out.below hS.base).mono hS.size)).mono ?_
  rintro e w1 ⟨rfl, hb⟩
  have hS1 := hS.below hb
  obtain ⟨b0, -⟩ := hS1.box (i := 0) rfl
  have b00 := b0 0 _ rfl
  have b01 := b0 1 _ rfl
  have HS1 := Lib.hid hS1
  clear hS hb b0 hS1
  go_wp2
  go_step3
  go_wp2
  clear b00 b01
  go_loopw [4, 14] (fun v i wr => v = .slice none 0 0 ∧ ∃ s : Nat, i = .int .i64 s ∧ s ≤ m ∧ Hid (∀ s', s' < s → violI N xs s' = none) ∧ St w wr [bx w.heap.size 26 [.int .i64 N, .slice A m cap]]) (fun _ i _ => m - (intOf i).toNat)
  case atStart => exact ⟨rfl, 0, rfl, Nat.zero_le _, Lib.hid (fun s' hs' => absurd hs' (by omega)), HS1.out⟩
  case round =>
    obtain ⟨rfl, s, rfl, hsm, hno, hS⟩ := hrel
    obtain ⟨b0, -⟩ := hS.box (i := 0) rfl
    have b00 := b0 0 _ rfl
    have b01 := b0 1 _ rfl
    have HS := Lib.hid hS
    clear b0 hS
    by_cases hlt : s < m
    · have hsi : (s : Int) < (m : Int) := by omega
      go_wp2
      clear b00 b01
      obtain ⟨wo, rfl⟩ : ∃ wo : World, wo = wr := ⟨_, rfl⟩
      go_loopw [4, 19] (fun v x wr => v = .slice none 0 0 ∧ ∃ i : Nat, x = .int .i64 i ∧ i ≤ N ∧ Hid (∀ i', i' < i → violK N xs s i' = none) ∧ St w wr [bx w.heap.size 26 [.int .i64 N, .slice A m cap]]) (fun _ x _ => N - (intOf x).toNat)
      case atStart => exact ⟨rfl, 0, rfl, Nat.zero_le _, Lib.hid (fun i' hi' => absurd hi' (by omega)), HS.out⟩
      case round =>
        obtain ⟨rfl, i, rfl, hiN, hno2, hS⟩ := hrel
        obtain ⟨b0, -⟩ := hS.box (i := 0) rfl
        have b00 := b0 0 _ rfl
        have b01 := b0 1 _ rfl
        have HS2 := Lib.hid hS
        clear b0 hS
        by_cases hlt2 : i < N
        · have hii : (i : Int) < (N : Int) := by omega
          go_wp2
          clear b00 b01
          obtain ⟨wo2, rfl⟩ : ∃ wo : World, wo = wr := ⟨_, rfl⟩
          go_loopw [4, 7] (fun v x wr => v = .slice none 0 0 ∧ ∃ k : Nat, x = .int .i64 k ∧ k ≤ N ∧ i < k ∧ Hid (∀ k', i < k' → k' < k → bad xs s i k' = false) ∧ St w wr [bx w.heap.size 26 [.int .i64 N, .slice A m cap]]) (fun _ x _ => N - (intOf x).toNat)
          case atStart => exact ⟨rfl, i + 1, by go_num, by omega, by omega, Lib.hid (fun k' h1 h2 => absurd h2 (by omega)), HS2.out⟩
          case round =>
            obtain ⟨rfl, k, rfl, hkN, hik, hno3, hS⟩ := hrel
            obtain ⟨b0, -⟩ := hS.box (i := 0) rfl
            have b00 := b0 0 _ rfl
            have b01 := b0 1 _ rfl
            have HS3 := Lib.hid hS
            clear b0 hS
            by_cases hlt3 : k < N
            · have hki : (k : Int) < (N : Int) := by omega
              have nextR := Lib.hid (show bad xs s i k = false → ∀ k', i < k' → k' < k + 1 → bad xs s i k' = false from fun hb k' h1 h2 => by
                by_cases e : k' = k
                · subst e; exact hb
                · exact hno3.out k' h1 (by omega))
              have hc := fun W (hW : Ints W W.heap.size A xs) => hb'.out W s i k hW hlt hlt2 hlt3
              cases hbk : bad xs s i k
              · have HB := Lib.hid (nextR.out hbk)
                rw [hbk] at hc
                have HC := Lib.hid hc
                clear nextR hbk hc
                go_wp2_with (go_at_call 67; refine St.use (w0 := w) (by exact HS3.out) ?_; intro hS; refine (HC.out _ ((h.out.below hS.base).mono hS.size)).mono ?_; rintro e w1 ⟨rfl, hb⟩; have HS4 := Lib.hid (hS.below hb); clear hS hb)
                go_roundw
                case rel => exact ⟨rfl, k + 1, by go_num, by omega, by omega, HB, HS4.out⟩
                case measure => simp [intOf]; omega
              · have HV := Lib.hid (viol_hit (HF.out) (s := s) (i := i) (k := k) (by rw [HX.out]; omega) hlt2 hlt3 hik hno.out hno2.out hno3.out hbk)
                rw [hbk] at hc
                have HC := Lib.hid hc
                clear nextR hbk hc
                go_wp2_with (go_at_call 67; refine St.use (w0 := w) (by exact HS3.out) ?_; intro hS; refine (HC.out _ ((h.out.below hS.base).mono hS.size)).mono ?_; rintro e w1 ⟨rfl, hb⟩; have HS4 := Lib.hid (hS.below hb); clear hS hb)
                rw [Exit.noGoto_ret]
                go_ret2
                rw [HV.out]
                have hE := HS4.out.lit3 (s : Int) (i : Int) (k : Int)
                exact ⟨_, _, rfl, hE.ownI (i := 0) rfl, hE.base⟩
            · obtain rfl : k = N := by omega
              have hkn : ¬ (k : Int) < (k : Int) := by omega
              go_wp2
              go_roundw
              case rel => exact ⟨rfl, i + 1, by go_num, by omega, Lib.hid (fun i' hi' => by
                by_cases e : i' = i
                · subst e; exact violK_none fun k' h1 h2 => hno3.out k' h1 h2
                · exact hno2.out i' (by omega)), HS3.out⟩
              case measure => simp [intOf]; omega
        · obtain rfl : i = N := by omega
          have hin : ¬ (i : Int) < (i : Int) := by omega
          go_wp2
          go_roundw
          case rel => exact ⟨rfl, s + 1, by go_num, by omega, Lib.hid (fun s' hs' => by
            by_cases e : s' = s
            · subst e; exact violI_none hno2.out
            · exact hno.out s' (by omega)), HS2.out⟩
          case measure => simp [intOf]; omega
    · obtain rfl : s = m := by omega
      have hsn : ¬ (s : Int) < (s : Int) := by omega
      have hv := viol_none (n := N) (xs := xs) fun s' hs' => hno.out s' (by rw [HX.out] at hs'; exact hs')
      have HV := Lib.hid hv
      clear hv
      go_wp2
      go_ret2
      rw [HV.out]
      exact ⟨_, _, rfl, HS.out.nil.ownI (i := 0) rfl, HS.out.nil.base⟩

theorem violI_any (n : Int) (A : Option Addr) (xs : List Int) (cap : Nat) (w : World) (h : Hid (Ints w w.heap.size A xs)) :
    Calls Tryz.prog 43 #[.agg #[.int .i64 n, .slice A xs.length cap]] w (RetIB w (viol n xs).1 (viol n xs).2) := by
  cases hf : isFn n xs
  · rw [viol_no hf]
    exact violI_bad n A xs cap w h hf
  · obtain ⟨N, rfl⟩ := Int.eq_ofNat_of_zero_le (isFn_yes hf).1
    exact violI_good N A xs cap w h hf


end Go.Proofs.YtielfnjkfceliaaGreatDoor.C

namespace Go.Proofs.YtielfnjkfceliaaGreatDoor.C
open Go.RowKit K M
set_option linter.unusedVariables false
set_option linter.unusedSimpArgs false


section

variable (n : Int) (A : Option Addr) (xs : List Int) (cap : Nat) (w : World) (h : Hid (Ints w w.heap.size A xs))
include h

theorem subI_any : Calls Tryz.prog 10 #[.agg #[.int .i64 n, .slice A xs.length cap]] w (RetV w (.bool (isSub n xs))) := by
  have HW := Lib.hid (St.start w)
  unfold isSub
  obtain ⟨rx, rb, hr⟩ : ∃ rx rb, viol n xs = (rx, rb) := ⟨_, _, rfl⟩
  rw [hr]
  have hv := fun W (hW : Hid (Ints W W.heap.size A xs)) => violI_any n A xs cap W hW
  rw [hr] at hv
  have HV := Lib.hid hv
  clear hv hr
  obtain ⟨f, hf⟩ : ∃ f, isFn n xs = f := ⟨_, rfl⟩
  have hg := fun W (hW : Hid (Ints W W.heap.size A xs)) => isFnI_any n A xs cap W hW
  rw [hf] at hg ⊢
  have HG := Lib.hid hg
  clear hg hf
  dsimp only
  go_enter Tryz.func10, Tryz.ntmps10
  go_wp2_with fail
  refine St.use (w0 := w) (by exact HW.out.alloc _ _) ?_
  intro hS
  refine (HV.out _ (Lib.hid ((h.out.below hS.base).mono hS.size))).mono ?_
  rintro e w1 ⟨A1, c1, rfl, ho, hb⟩
  have hS1 := hS.below hb
  obtain ⟨b0, -⟩ := hS1.box (i := 0) rfl
  have b00 := b0 0 _ rfl
  have b01 := b0 1 _ rfl
  have HS1 := Lib.hid hS1
  clear hS hb b0 hS1 ho
  cases f <;> cases rb
  all_goals
    go_wp2_with (go_at_call 14; refine St.use (w0 := w) (by exact HS1.out) ?_; intro hS; refine (HG.out _ (Lib.hid ((h.out.below hS.base).mono hS.size))).mono ?_; rintro e w2 ⟨rfl, hb⟩; have HS2 := Lib.hid (hS.below hb); clear hS hb)
    go_ret
    exact ⟨rfl, HS2.out.base⟩

theorem groundI_any : Calls Tryz.prog 31 #[.agg #[.int .i64 n, .slice A xs.length cap]] w (RetV w (.bool (isGround n xs))) := by
  have HW := Lib.hid (St.start w)
  unfold isGround
  cases hf : isFn n xs
  · have HF := Lib.hid hf
    clear hf
    go_enter Tryz.func31, Tryz.ntmps31
    go_wp2_with (go_at_call 14; refine St.use (w0 := w) (by exact HW.out.alloc _ _) ?_; intro hS; refine (isFnI_no n A xs cap _ (Lib.hid ((h.out.below hS.base).mono hS.size)) HF.out).mono ?_; rintro e w2 ⟨rfl, hb⟩; have HS2 := Lib.hid (hS.below hb); clear hS hb)
    go_ret
    exact ⟨rfl, HS2.out.base⟩
  · obtain ⟨hl1, hl2⟩ := isFn_len hf
    have HF := Lib.hid hf
    obtain ⟨b, off, rfl, hbl, hcc⟩ := h.out (by omega)
    have hc := hcc 0 (by omega)
    rw [Nat.add_zero] at hc
    obtain ⟨x, hx⟩ : ∃ x, xs.getD 0 0 = x := ⟨_, rfl⟩
    rw [hx] at hc ⊢
    have HC := Lib.hid hc
    obtain ⟨m, hxm⟩ : ∃ m, xs.length = m := ⟨_, rfl⟩
    have hg := fun W (hW : Hid (Ints W W.heap.size (some ⟨b, off, none⟩) xs)) => isFnI_yes n (some ⟨b, off, none⟩) xs cap W hW hf
    rw [hxm] at hl1 hl2 hg ⊢
    have HG := Lib.hid hg
    have hm0 : (0 : Int) < (m : Int) := by omega
    clear hf hcc hc hg hx hxm
    by_cases h0 : x = 0
    · subst h0
      go_enter Tryz.func31, Tryz.ntmps31
      go_wp2_with (go_at_call 14; refine St.use (w0 := w) (by exact HW.out.alloc _ _) ?_; intro hS; refine (HG.out _ (Lib.hid ((h.out.below hS.base).mono hS.size))).mono ?_; rintro e w2 ⟨rfl, hb⟩; have hS1 := hS.below hb; obtain ⟨b0, -⟩ := hS1.box (i := 0) rfl; have b01 := b0 1 _ rfl; have d0 := (hS1.base.cell (p := ⟨b, off, none⟩) hbl).trans HC.out; have HS2 := Lib.hid hS1; clear hS hb hS1 b0)
      go_ret
      exact ⟨rfl, HS2.out.base⟩
    · have hx0 : (x == 0) = false := beq_eq_false_iff_ne.2 h0
      have hd : decide (x = 0) = false := by simpa using h0
      rw [hd]
      clear h0
      go_enter Tryz.func31, Tryz.ntmps31
      go_wp2_with (go_at_call 14; refine St.use (w0 := w) (by exact HW.out.alloc _ _) ?_; intro hS; refine (HG.out _ (Lib.hid ((h.out.below hS.base).mono hS.size))).mono ?_; rintro e w2 ⟨rfl, hb⟩; have hS1 := hS.below hb; obtain ⟨b0, -⟩ := hS1.box (i := 0) rfl; have b01 := b0 1 _ rfl; have d0 := (hS1.base.cell (p := ⟨b, off, none⟩) hbl).trans HC.out; have HS2 := Lib.hid hS1; clear hS hb hS1 b0)
      go_ret
      exact ⟨rfl, HS2.out.base⟩

end


end Go.Proofs.YtielfnjkfceliaaGreatDoor.C
