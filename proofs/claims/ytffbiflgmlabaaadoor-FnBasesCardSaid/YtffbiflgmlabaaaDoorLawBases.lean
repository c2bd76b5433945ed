/-
  The law of bases, walked: its beginning, and the law.
-/
import Derived.Test.YtffbiflgmlabaaaDoorLawBasA
namespace Go.Proofs.YtffbiflgmlabaaaDoor.C
open Go.RowKit M K
set_option linter.unusedVariables false
set_option linter.unusedSimpArgs false

set_option maxRecDepth 100000 in
set_option maxHeartbeats 16000000 in
theorem law_bases_in (T : World → Prop) (stay : ∀ W W', T W → Below W.heap.size W W' → T W') (a : Option Addr) (len cap : Nat) (w : World) (hl : len ≤ 1048576) (hy : Hid (Bytes w.heap.size w (.slice a len cap) len)) (HT : Hid (T w))
    (iTight : Hid (∀ (W : World) (n : Int) (A : Option Addr) (xs : List Int) (c : Nat) (D : Option Addr) (ys : List Int) (d : Nat), T W → Hid (Ints W W.heap.size A xs) → Hid (Ints W W.heap.size D ys) → ys.length ≤ 1048576 → Calls Tryd.prog 10 #[.agg #[.int .i64 n, .slice A xs.length c], .slice D ys.length d] W (RetIB W (tightSets n xs ys).1 (tightSets n xs ys).2)))
    (iBelow : Hid (∀ (W : World) (n : Int) (A : Option Addr) (xs : List Int) (c : Nat) (D : Option Addr) (ys : List Int) (d : Nat), T W → Hid (Ints W W.heap.size A xs) → Hid (Ints W W.heap.size D ys) → ys.length ≤ 1048576 → Calls Tryd.prog 13 #[.agg #[.int .i64 n, .slice A xs.length c], .slice D ys.length d] W (RetV W (.bool (isBelow n xs ys)))))
    (iBase : Hid (∀ (W : World) (n : Int) (A : Option Addr) (xs : List Int) (c : Nat) (D : Option Addr) (ys : List Int) (d : Nat), T W → Hid (Ints W W.heap.size A xs) → Hid (Ints W W.heap.size D ys) → ys.length ≤ 1048576 → Calls Tryd.prog 14 #[.agg #[.int .i64 n, .slice A xs.length c], .slice D ys.length d] W (RetV W (.bool (isBase n xs ys)))))
    (iLat : Hid (∀ (W : World) (A : Option Addr) (xs : List Int) (c : Nat), T W → Hid (Ints W W.heap.size A xs) → xs.length ≤ 1048576 → Calls Tryd.prog 18 #[.slice A xs.length c] W (RetV W (.bool (isLat xs)))))
    (iCap : Hid (∀ (W : World) (n : Int) (A : Option Addr) (xs : List Int) (c : Nat) (D : Option Addr) (ys : List Int) (d : Nat) (e : Int), T W → Hid (Ints W W.heap.size A xs) → Hid (Ints W W.heap.size D ys) → ys.length ≤ 1048576 → Calls Tryd.prog 20 #[.agg #[.int .i64 n, .slice A xs.length c], .slice D ys.length d, .int .i64 e] W (RetV W (.tuple #[.int .i64 (capOf n xs ys e).1, .bool (capOf n xs ys e).2]))))
    (iExch : Hid (∀ (W : World) (n : Int) (A : Option Addr) (xs : List Int) (c : Nat) (D : Option Addr) (ys : List Int) (d : Nat) (e h : Int), T W → Hid (Ints W W.heap.size A xs) → Hid (Ints W W.heap.size D ys) → ys.length ≤ 1048576 → Calls Tryd.prog 23 #[.agg #[.int .i64 n, .slice A xs.length c], .slice D ys.length d, .int .i64 e, .int .i64 h] W (RetV W (.tuple #[.int .i64 (exchOf n xs ys e h).1, .bool (exchOf n xs ys e h).2]))))
    (iCor : Hid (∀ (W : World) (n : Int) (A : Option Addr) (xs : List Int) (c : Nat) (D : Option Addr) (ys : List Int) (d : Nat), T W → Hid (Ints W W.heap.size A xs) → Hid (Ints W W.heap.size D ys) → ys.length ≤ 1048576 → Calls Tryd.prog 26 #[.agg #[.int .i64 n, .slice A xs.length c], .slice D ys.length d] W (RetIB W (cornerOf n xs ys).1 (cornerOf n xs ys).2)))
    (iRaise : Hid (∀ (W : World) (n : Int) (A : Option Addr) (xs : List Int) (c : Nat) (D : Option Addr) (ys : List Int) (d : Nat) (E : Option Addr) (ms : List Int) (k : Nat), T W → Hid (Ints W W.heap.size A xs) → Hid (Ints W W.heap.size D ys) → ys.length ≤ 1048576 → Hid (Ints W W.heap.size E ms) → ms.length ≤ 1048576 → Calls Tryd.prog 29 #[.agg #[.int .i64 n, .slice A xs.length c], .slice D ys.length d, .slice E ms.length k] W (RetIB W (raiseVec n xs ys ms).1 (raiseVec n xs ys ms).2)))
    (iIsD : Hid (∀ (W : World) (n : Int) (A : Option Addr) (xs : List Int) (c : Nat) (D : Option Addr) (ys : List Int) (d : Nat), T W → Hid (Ints W W.heap.size A xs) → Hid (Ints W W.heap.size D ys) → ys.length ≤ 1048576 → Calls Tryd.prog 40 #[.agg #[.int .i64 n, .slice A xs.length c], .slice D ys.length d] W (RetV W (.bool (isDual n xs ys)))))
    (iRank : Hid (∀ (W : World) (n : Int) (A : Option Addr) (xs : List Int) (c : Nat) (D : Option Addr) (ys : List Int) (d : Nat), T W → Hid (Ints W W.heap.size A xs) → Hid (Ints W W.heap.size D ys) → ys.length ≤ 1048576 → Calls Tryd.prog 33 #[.agg #[.int .i64 n, .slice A xs.length c], .slice D ys.length d] W (RetV W (.tuple #[.int .i64 (rankVec n xs ys).1, .bool (rankVec n xs ys).2]))))
    (iNeg : Hid (∀ (W : World) (A : Option Addr) (xs : List Int) (c : Nat), T W → Hid (Ints W W.heap.size A xs) → xs.length ≤ 1048576 → Calls Tryd.prog 36 #[.slice A xs.length c] W (RetV W (.tuple #[.int .i64 (negPart xs).1, .bool (negPart xs).2]))))
    (iVal : Hid (∀ (W : World) (n : Int) (A : Option Addr) (xs : List Int) (c : Nat) (s : Int), T W → Hid (Ints W W.heap.size A xs) → Calls Tryd.prog 39 #[.agg #[.int .i64 n, .slice A xs.length c], .int .i64 s] W (RetV W (.int .i64 (valueOf n xs s)))))
    : Calls Tryd.prog 3 #[.slice a len cap] w (RetV w (.bool true)) := by
  have hbd : decide ((1048576 : Int) < (len : Int)) = false := by simp; omega
  have HK0 := Lib.hid (show Kc T w w [] [] from ⟨Below.refl _ _, (fun _ h => by cases h), (fun _ h => by cases h), HT.out, stay⟩)
  go_enter Tryd.func3, Tryd.ntmps3
  go_upto_if 53 with (refine (big_any5 _ _ _ _ (by omega)).mono ?_; rw [hbd]; rintro e w' ⟨rfl, rfl⟩)
  go_cut [] (fun wx => Kc T w wx [] [])
  case first =>
    go_wp2_with fail
    go_meet
    exact HK0.out
  case rest =>
    have HP9 := Lib.hid hcut
    clear hcut HK0
    refine (show ∀ (a' : Act) (w' : World), Code.wp Tryd.prog (dropS 2 ((Tryd.f3.body).getD .skip)) (bodyPost Tryd.prog Tryd.f3 (RetV w (.bool true))) a' w' → _ from by assumption) _ _ ?_
    exact law_bases_A T stay a len cap w hl hy HT iTight iBelow iBase iLat iCap iExch iCor iRaise iIsD iRank iNeg iVal _ _ _ _ _ _ _ _ _ _ _ _ _ _ _ _ _ _ _ _ _ _ _ _ _ _ _ _ _ _ _ _ _ _ _ _ _ _ _ _ _ _ _ _ _ _ _ _ _ _ _ _ _ _ _ _ _ _ _ _ _ _ _ _ _ _ _ _ _ _ _ _ _ _ _ _ _ _ _ _ _ _ _ _ _ _ _ _ _ _ _ _ _ _ _ _ _ _ _ _ _ _ _ _ _ _ _ _ _ _ _ _ _ _ _ _ _ _ _ _ _ _ _ _ _ _ _ _ _ _ _ _ _ _ _ _ _ _ _ _ _ _ _ _ _ _ _ _ _ _ _ _ _ _ _ _ _ _ _ _ _ _ _ _ _ _ _ _ _ _ _ _ _ _ _ _ _ _ _ _ _ _ _ _ _ _ _ _ _ _ _ _ _ _ _ _ _ _ _ _ _ _ _ _ _ _ _ _ _ _ _ _ _ _ _ _ _ _ _ _ _ _ _ _ _ _ _ _ _ _ _ _ _ _ _ _ _ _ _ _ _ _ _ _ _ _ _ _ _ _ _ _ _ _ _ _ _ _ _ _ _ _ _ _ _ _ _ _ _ _ _ _ _ _ _ _ _ _ _ _ _ _ _ _ _ _ _ _ _ _ _ _ _ _ _ _ _ _ _ _ _ _ _ _ _ _ _ _ _ _ _ _ _ _ _ _ _ _ _ _ _ _ _ _ _ _ _ _ _ _ _ _ _ _ _ _ _ _ _ _ _ _ _ _ _ _ _ _ _ _ _ _ _ _ _ _ _ _ _ _ _ _ _ _ _ _ _ _ _ _ _ _ _ _ _ _ _ _ _ _ _ _ _ _ _ _ _ _ _ _ _ _ HP9

set_option maxRecDepth 100000 in
set_option maxHeartbeats 16000000 in
theorem law_bases (T : World → Prop) (stay : ∀ W W', T W → Below W.heap.size W W' → T W') (a : Option Addr) (len cap : Nat) (w : World) (hm : len ≤ 9223372036854775807) (hy : Hid (Bytes w.heap.size w (.slice a len cap) len)) (HT : Hid (T w))
    (iTight : Hid (∀ (W : World) (n : Int) (A : Option Addr) (xs : List Int) (c : Nat) (D : Option Addr) (ys : List Int) (d : Nat), T W → Hid (Ints W W.heap.size A xs) → Hid (Ints W W.heap.size D ys) → ys.length ≤ 1048576 → Calls Tryd.prog 10 #[.agg #[.int .i64 n, .slice A xs.length c], .slice D ys.length d] W (RetIB W (tightSets n xs ys).1 (tightSets n xs ys).2)))
    (iBelow : Hid (∀ (W : World) (n : Int) (A : Option Addr) (xs : List Int) (c : Nat) (D : Option Addr) (ys : List Int) (d : Nat), T W → Hid (Ints W W.heap.size A xs) → Hid (Ints W W.heap.size D ys) → ys.length ≤ 1048576 → Calls Tryd.prog 13 #[.agg #[.int .i64 n, .slice A xs.length c], .slice D ys.length d] W (RetV W (.bool (isBelow n xs ys)))))
    (iBase : Hid (∀ (W : World) (n : Int) (A : Option Addr) (xs : List Int) (c : Nat) (D : Option Addr) (ys : List Int) (d : Nat), T W → Hid (Ints W W.heap.size A xs) → Hid (Ints W W.heap.size D ys) → ys.length ≤ 1048576 → Calls Tryd.prog 14 #[.agg #[.int .i64 n, .slice A xs.length c], .slice D ys.length d] W (RetV W (.bool (isBase n xs ys)))))
    (iLat : Hid (∀ (W : World) (A : Option Addr) (xs : List Int) (c : Nat), T W → Hid (Ints W W.heap.size A xs) → xs.length ≤ 1048576 → Calls Tryd.prog 18 #[.slice A xs.length c] W (RetV W (.bool (isLat xs)))))
    (iCap : Hid (∀ (W : World) (n : Int) (A : Option Addr) (xs : List Int) (c : Nat) (D : Option Addr) (ys : List Int) (d : Nat) (e : Int), T W → Hid (Ints W W.heap.size A xs) → Hid (Ints W W.heap.size D ys) → ys.length ≤ 1048576 → Calls Tryd.prog 20 #[.agg #[.int .i64 n, .slice A xs.length c], .slice D ys.length d, .int .i64 e] W (RetV W (.tuple #[.int .i64 (capOf n xs ys e).1, .bool (capOf n xs ys e).2]))))
    (iExch : Hid (∀ (W : World) (n : Int) (A : Option Addr) (xs : List Int) (c : Nat) (D : Option Addr) (ys : List Int) (d : Nat) (e h : Int), T W → Hid (Ints W W.heap.size A xs) → Hid (Ints W W.heap.size D ys) → ys.length ≤ 1048576 → Calls Tryd.prog 23 #[.agg #[.int .i64 n, .slice A xs.length c], .slice D ys.length d, .int .i64 e, .int .i64 h] W (RetV W (.tuple #[.int .i64 (exchOf n xs ys e h).1, .bool (exchOf n xs ys e h).2]))))
    (iCor : Hid (∀ (W : World) (n : Int) (A : Option Addr) (xs : List Int) (c : Nat) (D : Option Addr) (ys : List Int) (d : Nat), T W → Hid (Ints W W.heap.size A xs) → Hid (Ints W W.heap.size D ys) → ys.length ≤ 1048576 → Calls Tryd.prog 26 #[.agg #[.int .i64 n, .slice A xs.length c], .slice D ys.length d] W (RetIB W (cornerOf n xs ys).1 (cornerOf n xs ys).2)))
    (iRaise : Hid (∀ (W : World) (n : Int) (A : Option Addr) (xs : List Int) (c : Nat) (D : Option Addr) (ys : List Int) (d : Nat) (E : Option Addr) (ms : List Int) (k : Nat), T W → Hid (Ints W W.heap.size A xs) → Hid (Ints W W.heap.size D ys) → ys.length ≤ 1048576 → Hid (Ints W W.heap.size E ms) → ms.length ≤ 1048576 → Calls Tryd.prog 29 #[.agg #[.int .i64 n, .slice A xs.length c], .slice D ys.length d, .slice E ms.length k] W (RetIB W (raiseVec n xs ys ms).1 (raiseVec n xs ys ms).2)))
    (iIsD : Hid (∀ (W : World) (n : Int) (A : Option Addr) (xs : List Int) (c : Nat) (D : Option Addr) (ys : List Int) (d : Nat), T W → Hid (Ints W W.heap.size A xs) → Hid (Ints W W.heap.size D ys) → ys.length ≤ 1048576 → Calls Tryd.prog 40 #[.agg #[.int .i64 n, .slice A xs.length c], .slice D ys.length d] W (RetV W (.bool (isDual n xs ys)))))
    (iRank : Hid (∀ (W : World) (n : Int) (A : Option Addr) (xs : List Int) (c : Nat) (D : Option Addr) (ys : List Int) (d : Nat), T W → Hid (Ints W W.heap.size A xs) → Hid (Ints W W.heap.size D ys) → ys.length ≤ 1048576 → Calls Tryd.prog 33 #[.agg #[.int .i64 n, .slice A xs.length c], .slice D ys.length d] W (RetV W (.tuple #[.int .i64 (rankVec n xs ys).1, .bool (rankVec n xs ys).2]))))
    (iNeg : Hid (∀ (W : World) (A : Option Addr) (xs : List Int) (c : Nat), T W → Hid (Ints W W.heap.size A xs) → xs.length ≤ 1048576 → Calls Tryd.prog 36 #[.slice A xs.length c] W (RetV W (.tuple #[.int .i64 (negPart xs).1, .bool (negPart xs).2]))))
    (iVal : Hid (∀ (W : World) (n : Int) (A : Option Addr) (xs : List Int) (c : Nat) (s : Int), T W → Hid (Ints W W.heap.size A xs) → Calls Tryd.prog 39 #[.agg #[.int .i64 n, .slice A xs.length c], .int .i64 s] W (RetV W (.int .i64 (valueOf n xs s)))))
    : Calls Tryd.prog 3 #[.slice a len cap] w (RetV w (.bool true)) := by
  by_cases hl : len ≤ 1048576
  · exact law_bases_in T stay a len cap w hl hy HT iTight iBelow iBase iLat iCap iExch iCor iRaise iIsD iRank iNeg iVal
  · have hbd : decide ((1048576 : Int) < (len : Int)) = true := by simp; omega
    have HW := Lib.hid (St.start w)
    clear iTight iBelow iBase iLat iCap iExch iCor iRaise iIsD iRank iNeg iVal
    go_enter Tryd.func3, Tryd.ntmps3
    go_wp2_with fail
    refine (big_any5 _ _ _ _ hm).mono ?_
    rw [hbd]
    rintro e w' ⟨rfl, rfl⟩
    go_wp2
    go_ret
    exact ⟨rfl, HW.out.base⟩


end Go.Proofs.YtffbiflgmlabaaaDoor.C
