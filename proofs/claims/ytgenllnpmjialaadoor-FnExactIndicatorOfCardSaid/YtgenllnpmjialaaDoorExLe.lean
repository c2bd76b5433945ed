/-
  How long the results of chapter 7 can be.
-/
import Derived.Test.YtgenllnpmjialaaDoorExM
namespace Go.Proofs.YtgenllnpmjialaaDoor.M
theorem order_le (ws : List Int) : (orderFor ws).1.length ≤ 1048576 := by
  unfold orderFor
  split
  · rename_i h
    rw [nats_len, ordN_len]
    have := (isVec_yes h).1
    omega
  · exact Nat.zero_le _
theorem least_le (xs ys : List Int) : (leastV xs ys).1.length ≤ 1048576 := by
  unfold leastV
  split
  · rename_i h
    have := (isVec_yes (fitV_yes h).1).1
    show (minV xs ys).length ≤ _
    unfold minV
    rw [tab_length]
    omega
  · exact Nat.zero_le _
theorem great_le (xs ys : List Int) : (greatV xs ys).1.length ≤ 1048576 := by
  unfold greatV
  split
  · rename_i h
    have := (isVec_yes (fitV_yes h).1).1
    show (maxV xs ys).length ≤ _
    unfold maxV
    rw [tab_length]
    omega
  · exact Nat.zero_le _
theorem ind_le (n s : Int) : (indOf n s).1.length ≤ 1048576 := by
  unfold indOf
  split
  · rename_i h
    rw [tab_length]
    omega
  · exact Nat.zero_le _

end Go.Proofs.YtgenllnpmjialaaDoor.M
