/-
  The contract of spec.l8Orders.
-/
import Derived.Test.YtlbefommcahkeaaDoorLolA
import Derived.Test.YtlbefommcahkeaaDoorSub
namespace Go.Proofs.YtlbefommcahkeaaDoor.M
set_option linter.unusedVariables false

def usedTo (p : List Int) (x : Int) : Nat → Bool
  | 0 => false
  | i + 1 => usedTo p x i || (p.getD i 0 == x)
/-- All orders of the first n elements that begin with p, d elements more. -/
def ordersTo (n : Nat) : Nat → List Int → List (List Int)
  | 0, p => [p]
  | d + 1, p => (List.range n).flatMap fun x : Nat => if usedTo p (x : Int) p.length = true then [] else ordersTo n d (p ++ [(x : Int)])
def ordersAt (n d : Nat) (p : List Int) (m : Nat) : List (List Int) := (List.range m).flatMap fun x : Nat => if usedTo p (x : Int) p.length = true then [] else ordersTo n d (p ++ [(x : Int)])
theorem ordersAt_succ (n d : Nat) (p : List Int) (m : Nat) : ordersAt n d p (m + 1) = ordersAt n d p m ++ (if usedTo p (m : Int) p.length = true then [] else ordersTo n d (p ++ [(m : Int)])) := by
  unfold ordersAt
  rw [List.range_succ, List.flatMap_append]
  simp
theorem orders_len (n : Nat) : ∀ d p, (ordersTo n d p).length ≤ n ^ d
  | 0, p => by simp [ordersTo]
  | d + 1, p => by
    have key : ∀ m, (ordersAt n d p m).length ≤ m * n ^ d := by
      intro m
      induction m with
      | zero => simp [ordersAt]
      | succ m ih =>
        rw [ordersAt_succ, List.length_append, Nat.succ_mul]
        have := orders_len n d (p ++ [(m : Int)])
        split
        · simp; omega
        · omega
    have := key n
    rw [Nat.pow_succ, Nat.mul_comm]
    exact this
theorem ordersAt_len (n d : Nat) (p : List Int) : ∀ m, (ordersAt n d p m).length ≤ m * n ^ d
  | 0 => by simp [ordersAt]
  | m + 1 => by
    have ih := ordersAt_len n d p m
    rw [ordersAt_succ, List.length_append, Nat.succ_mul]
    have := orders_len n d (p ++ [(m : Int)])
    split
    · simp; omega
    · omega

end Go.Proofs.YtlbefommcahkeaaDoor.M
namespace Go.Proofs.YtlbefommcahkeaaDoor.C
open Go.RowKit K M
set_option linter.unusedVariables false
set_option linter.unusedSimpArgs false

/-- A list of lists is left beside L. -/
def RetLol (w0 : World) (L : List Cel) (xss : List (List Int)) (e : Ending) (w' : World) : Prop := ∃ (g c : Nat) (es : List Ent), e = .returned (.slice (some ⟨g, 0, none⟩) es.length c) ∧ es.map (fun e => e.2.2) = xss ∧ St w0 w' (lol (.slice (some ⟨g, 0, none⟩) es.length c) es ++ L)

end Go.Proofs.YtlbefommcahkeaaDoor.C
