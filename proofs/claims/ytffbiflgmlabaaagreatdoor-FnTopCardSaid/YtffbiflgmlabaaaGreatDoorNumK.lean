/-
  Plain mathematics of chapter 1 (fixed width numbers): what the encoders and decoders compute, on lists of bytes. Nothing of the translation.
  The contracts of spec.DecodeFixed and impl.DecodeFixed, and of the law that compares them.
  Small laws that the walks of this seat use: a string out of bytes that the call has just made.
  The contract of spec.EncodeFixed.
  The contract of impl.EncodeFixed.
  The law that compares spec.EncodeFixed and impl.EncodeFixed.
-/
import Derived.Below
import Derived.Laws.BitsLemmas
import Derived.Test.YtffbiflgmlabaaaGreatDoorRows
import Derived.WalkKit
import Derived.WalkLawsBesides
import Derived.WalkSpells
import Derived.Lib.Hide
import Derived.Laws.MakeOwn
import Derived.Laws.IdiomStrings
import Derived.Deep.AppendLies
import Derived.Outline
set_option linter.unusedVariables false
namespace Go.Proofs.YtffbiflgmlabaaaGreatDoor.M

/-- The number that big-endian bytes hold. -/
def decL (l : List UInt8) : Int := l.foldl (fun a c => a * 256 + (c.toNat : Int)) 0

theorem decL_snoc (l : List UInt8) (c : UInt8) : decL (l ++ [c]) = decL l * 256 + (c.toNat : Int) := by
  simp [decL, List.foldl_append]

theorem decL_bd (k : Nat) : ∀ l : List UInt8, l.length = k → 0 ≤ decL l ∧ decL l < 256 ^ k := by
  induction k with
  | zero => intro l h; have : l = [] := List.eq_nil_of_length_eq_zero h; subst this; exact ⟨by decide, by decide⟩
  | succ k ih =>
    intro l h
    obtain ⟨l', c, rfl⟩ : ∃ l' c, l = l' ++ [c] := ⟨l.dropLast, l.getLast (by intro e; simp [e] at h), (List.dropLast_concat_getLast _).symm⟩
    have hl : l'.length = k := by simpa using h
    obtain ⟨a, b⟩ := ih l' hl
    have hc : (c.toNat : Int) < 256 := by have := c.toNat_lt; omega
    rw [decL_snoc]
    have e : (256 : Int) ^ (k + 1) = 256 ^ k * 256 := Int.pow_succ ..
    omega

theorem take_snoc (s : ByteArray) (k : Nat) (h : k < s.size) : s.data.toList.take (k + 1) = s.data.toList.take k ++ [s[k]] := by
  rw [List.take_succ_eq_append_getElem (by simpa using h)]; rfl

theorem pow_le (k : Nat) (h : k ≤ 6) : (256 : Int) ^ k ≤ 281474976710656 := by
  have : k = 0 ∨ k = 1 ∨ k = 2 ∨ k = 3 ∨ k = 4 ∨ k = 5 ∨ k = 6 := by omega
  rcases this with rfl | rfl | rfl | rfl | rfl | rfl | rfl <;> decide

theorem decL_take (s : ByteArray) (k : Nat) (h : k < s.size) (h7 : k < 7) :
    0 ≤ decL (s.data.toList.take k) ∧ decL (s.data.toList.take k) ≤ 281474976710655 ∧ (s[k].toNat : Int) ≤ 255 ∧
    decL (s.data.toList.take (k + 1)) = decL (s.data.toList.take k) * 256 + (s[k].toNat : Int) := by
  have hs : s.data.toList.length = s.size := rfl
  have hl : (s.data.toList.take k).length = k := by rw [List.length_take]; omega
  obtain ⟨a, b⟩ := decL_bd k _ hl
  have c := pow_le k (by omega)
  have d := s[k].toNat_lt
  refine ⟨a, by omega, by omega, ?_⟩
  rw [take_snoc s k h, decL_snoc]

/-- Joining a byte below a number that ends in a zero byte is adding it. -/
theorem or_byte (x c : Int) (h0 : 0 ≤ x) (h1 : x ≤ 281474976710655) (h2 : 0 ≤ c) (h3 : c ≤ 255) : bits .or .i64 (x * 256) c = x * 256 + c :=
  bits_join .i64 62 (by decide) (fun n a b => by rw [IntKind.wrap_i64]; omega) 8 _ _ (by omega) (by omega) (by omega) h2 (by omega) (by omega)

/-- The last k bytes of a number, the greatest first. -/
def beL (n : Int) : Nat → List UInt8
  | 0 => []
  | k + 1 => UInt8.ofNat ((n / 256 ^ k) % 256).toNat :: beL n k

/-- What EncodeFixed gives for a width from 1 to 7 and a number from 0 on. -/
def efL (n : Int) (m : Nat) : List UInt8 := if n / 256 ^ m = 0 then beL n m else []

theorem beL_length (n : Int) (k : Nat) : (beL n k).length = k := by
  induction k with
  | zero => rfl
  | succ k ih => simp [beL, ih]

theorem quo_bd (n : Int) (k : Nat) (h : 0 ≤ n) : 0 ≤ n / 256 ^ k ∧ n / 256 ^ k ≤ n ∧ n / 256 ^ (k + 1) = n / 256 ^ k / 256 := by
  have hp : (0 : Int) < 256 ^ k := Int.pow_pos (by decide)
  refine ⟨Int.ediv_nonneg h (Int.le_of_lt hp), Int.ediv_le_self _ h, ?_⟩
  rw [Int.pow_succ, Int.ediv_ediv_of_nonneg (Int.le_of_lt hp)]

theorem two_pow (k : Nat) : (2 : Int) ^ (8 * k) = 256 ^ k := by
  rw [show (256 : Int) = 2 ^ 8 by decide, ← Int.pow_mul]

theorem byte_back (x : Int) : ((UInt8.ofNat (x % 256).toNat).toNat : Int) = x % 256 := by
  have : (UInt8.ofNat (x % 256).toNat).toNat = (x % 256).toNat % 256 := UInt8.toNat_ofNat'
  omega

/-- Storing the next byte from the right. -/
theorem set_next {α : Type} (m k : Nat) (z v : α) (l : List α) (h : k < m) :
    (List.replicate (m - k) z ++ l).set (m - 1 - k) v = List.replicate (m - (k + 1)) z ++ v :: l := by
  obtain ⟨d, hd⟩ : ∃ d, m - k = d + 1 := ⟨m - k - 1, by omega⟩
  have e1 : m - 1 - k = d := by omega
  have e2 : m - (k + 1) = d := by omega
  rw [hd, e1, e2, List.replicate_succ', List.append_assoc, List.set_append_right _ _ (by simp)]
  simp


end Go.Proofs.YtffbiflgmlabaaaGreatDoor.M

namespace Go.Proofs.YtffbiflgmlabaaaGreatDoor.C
open Go.RowKit M
set_option linter.unusedVariables false

theorem in_any (n lo hi : Int) (w : World) : Calls Tryz.prog 32 #[.int .i64 n, .int .i64 lo, .int .i64 hi] w fun e w' => e = .returned (.bool (decide (lo ≤ n) && decide (n ≤ hi))) ∧ w = w' := by
  by_cases h : lo ≤ n
  · go_enter Tryz.func32, Tryz.ntmps32
    go_wp2
    go_ret
    exact ⟨by rw [show decide (lo ≤ n) = true by simpa using h]; rfl, rfl⟩
  · go_enter Tryz.func32, Tryz.ntmps32
    go_wp2
    go_ret
    exact ⟨by rw [show decide (lo ≤ n) = false by simpa using h]; rfl, rfl⟩

end Go.Proofs.YtffbiflgmlabaaaGreatDoor.C

namespace Go.Proofs.YtffbiflgmlabaaaGreatDoor.K
open Go.RowKit
set_option linter.unusedVariables false

/-- What 'Below' gives of cells and marks. -/
theorem bcell {W w1 : World} (hb : Below W.heap.size W w1) : (∀ b o, b < W.heap.size → w1.cell? ⟨b, o, none⟩ = W.cell? ⟨b, o, none⟩) ∧ (∀ b o, b < W.heap.size → w1.frozen? ⟨b, o, none⟩ = W.frozen? ⟨b, o, none⟩) :=
  ⟨fun b o h => hb.cell (p := ⟨b, o, none⟩) h, fun b o h => hb.frozen (p := ⟨b, o, none⟩) h⟩

/-- 'string([]byte{x})'. -/
theorem conv_byte {P : Program} (w : World) (src dst e : TypeId) (x : Int) (hs : P.underlying src = some (.slice e)) (he : P.underlying e = some (.int .u8)) (hd : P.underlying dst = some .string) (h0 : 0 ≤ x) (h1 : x ≤ 255) :
    (convert src dst (.slice (some ⟨w.heap.size, 0, none⟩) 1 1)).run P (w.alloc (.cells #[.int .u8 x] e)) = .ok (.string ⟨#[UInt8.ofNat x.toNat]⟩) (w.alloc (.cells #[.int .u8 x] e)) := by
  have hx : ((UInt8.ofNat x.toNat).toNat : Int) = x := by
    have : (UInt8.ofNat x.toNat).toNat = x.toNat % 256 := UInt8.toNat_ofNat'
    omega
  refine run_convert_bytes_back (P := P) (w.alloc (.cells #[.int .u8 x] e)) src dst e ⟨w.heap.size, 0, none⟩ 1 [UInt8.ofNat x.toNat] hs he hd ?_
  intro j hj
  have : j = 0 := by simpa using hj
  subst this
  simp only [List.getElem_cons_zero]
  rw [hx]
  simp [Addr.add]
/-- Bytes as the cells that hold them. -/
def cellsOf (l : List UInt8) : List Value := l.map fun b => .int .u8 (b.toNat : Int)

theorem cellsOf_length (l : List UInt8) : (cellsOf l).length = l.length := by simp [cellsOf]
theorem cellsOf_append (l k : List UInt8) : cellsOf (l ++ k) = cellsOf l ++ cellsOf k := by simp [cellsOf]
theorem cellsOf_one (l : List UInt8) : ∀ u ∈ cellsOf l, u.oneCell' = true := by
  intro u hu
  simp only [cellsOf, List.mem_map] at hu
  obtain ⟨b, _, rfl⟩ := hu
  rfl

/-- 'string(b)', b a slice that the call has made: its cells are the bytes l. -/
theorem conv_row {P : Program} (w : World) (src dst e : TypeId) (base g n cap : Nat) (l : List UInt8) (hs : P.underlying src = some (.slice e)) (he : P.underlying e = some (.int .u8)) (hd : P.underlying dst = some .string)
    (hl : l.length = n) (hown : w.ownsRow base e 1 (.slice (some ⟨g, 0, none⟩) n cap) n (cellsOf l)) :
    (convert src dst (.slice (some ⟨g, 0, none⟩) n cap)).run P w = .ok (.string ⟨l.toArray⟩) w := by
  subst hl
  refine run_convert_bytes_back (P := P) w src dst e ⟨g, 0, none⟩ cap l hs he hd ?_
  intro j hj
  have h := hown.cellAt j (by omega)
  have e : (⟨g, 0, none⟩ : Addr).add j = ⟨g, j, none⟩ := by unfold Addr.add; split <;> simp_all
  rw [e, h]
  simp [cellsOf, hj]

/-- The same, where the slice may be nil: then it has no bytes. -/
theorem conv_own {P : Program} (w : World) (src dst e : TypeId) (base n : Nat) (v : Value) (l : List UInt8) (hs : P.underlying src = some (.slice e)) (he : P.underlying e = some (.int .u8)) (hd : P.underlying dst = some .string)
    (hl : l.length = n) (hown : w.ownsRow base e 1 v n (cellsOf l)) (hv : v ≠ .slice none 0 0) :
    (convert src dst v).run P w = .ok (.string ⟨l.toArray⟩) w := by
  rcases hown.2 with ⟨h, _⟩ | ⟨g, cap, cur, h, _⟩
  · exact absurd h hv
  · subst h
    exact conv_row w src dst e base g n cap l hs he hd hl hown

theorem made_u8 (n : Nat) : (madeCells #[.int .u8 0] n).toList = List.replicate n (.int .u8 0) := by
  apply List.ext_getElem
  · simp [madeCells]
  · intro i h1 h2
    simp [madeCells, Nat.mod_one]

/-- One byte more behind an owned row: the new cells as the appended list's. -/
theorem cellsOf_snoc (acc : List UInt8) (x : Int) (h0 : 0 ≤ x) (h1 : x ≤ 255) : cellsOf acc ++ [.int .u8 x] = cellsOf (acc ++ [UInt8.ofNat x.toNat]) := by
  have : (UInt8.ofNat x.toNat).toNat = x.toNat % 256 := UInt8.toNat_ofNat'
  have e : ((UInt8.ofNat x.toNat).toNat : Int) = x := by omega
  simp only [cellsOf, List.map_append, List.map_cons, List.map_nil, e]

/-- The cell of a new block of one byte, for the law of append. -/
theorem news_one (w : World) (x : Int) (e : TypeId) : ∀ (j : Nat) u, ([.int .u8 x] : List Value)[j]? = some u → (w.alloc (.cells #[.int .u8 x] e)).cell? ((⟨w.heap.size, 0, none⟩ : Addr).add j) = some u :=
  cell_one_new _ _ _
theorem one_u8 (x : Int) : ∀ u ∈ ([.int .u8 x] : List Value), u.oneCell' = true := by
  intro u hu; simp at hu; subst hu; rfl

/-- Behind an append to an owned row: 'Below' goes on. -/
theorem below_app {w wr w1 : World} {e : TypeId} {v : Value} {n : Nat} {xs : List Value} {o : Obj} (hb : Below w.heap.size w wr) (hown : wr.ownsRow w.heap.size e 1 v n xs) (hg : (wr.alloc o).grownBy w1 v.ownBlock) : Below w.heap.size w w1 :=
  (hb.alloc hb.size o).grown hg (by have := hb.size; simp; omega) (fun k hk => (hown.lt k hk).1)

/-- Two new cells, for the law of append. -/
theorem news_two (w : World) (x y : Value) (e : TypeId) : ∀ (j : Nat) u, ([x, y] : List Value)[j]? = some u → ((w.alloc (.cells #[x, y] e)).drew).cell? ((⟨w.heap.size, 0, none⟩ : Addr).add j) = some u :=
  World.news_of_block (w := (w.alloc (.cells #[x, y] e)).drew) (B := w.heap.size) (cs := #[x, y]) (heap_alloc_new w _)
theorem two_u8 (x y : Int) : ∀ u ∈ ([.int .u8 x, .int .u8 y] : List Value), u.oneCell' = true := by
  intro u hu; simp at hu; rcases hu with rfl | rfl <;> rfl

theorem below_appd {w wr w1 : World} {e : TypeId} {v : Value} {n : Nat} {xs : List Value} {o : Obj} (hb : Below w.heap.size w wr) (hown : wr.ownsRow w.heap.size e 1 v n xs) (hg : ((wr.alloc o).drew).grownBy w1 v.ownBlock) : Below w.heap.size w w1 :=
  (hb.alloc hb.size o).drew.grown hg (by have := hb.size; simp; omega) (fun k hk => (hown.lt k hk).1)

theorem info_u8 : (Tryz.prog.info? 5).map (fun i => (i.zero, i.size, i.bytes)) = some (some (.int .u8 0), 1, 1) := by kernel_rfl

end Go.Proofs.YtffbiflgmlabaaaGreatDoor.K

namespace Go.Proofs.YtffbiflgmlabaaaGreatDoor.C
open Go.RowKit M K
set_option linter.unusedVariables false

end Go.Proofs.YtffbiflgmlabaaaGreatDoor.C

namespace Go.Proofs.YtffbiflgmlabaaaGreatDoor.C
open Go.RowKit M K
set_option linter.unusedVariables false

/-- The row that impl.EncodeFixed fills, behind k rounds. -/
def fixRow (n : Int) (m k : Nat) : List Value := List.replicate (m - k) (.int .u8 0) ++ cellsOf (beL n k)

theorem fixRow_step (n : Int) (m k : Nat) (h : k < m) : (fixRow n m k).set (m - 1 - k) (.int .u8 (n / 2 ^ (8 * k) % 256)) = fixRow n m (k + 1) := by
  rw [two_pow]
  unfold fixRow
  rw [set_next m k _ _ _ h]
  simp only [cellsOf, beL, List.map_cons, byte_back]

end Go.Proofs.YtffbiflgmlabaaaGreatDoor.C

namespace Go.Proofs.YtffbiflgmlabaaaGreatDoor.C
open Go.RowKit M K
set_option linter.unusedVariables false

theorem below_two {w w1 w2 : World} (h1 : Below w.heap.size w w1) (h2 : Below w1.heap.size w1 w2) : Below w.heap.size w w2 :=
  h1.trans (h2.mono h1.size)

end Go.Proofs.YtffbiflgmlabaaaGreatDoor.C
