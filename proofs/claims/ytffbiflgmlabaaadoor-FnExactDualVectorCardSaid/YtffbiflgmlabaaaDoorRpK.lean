/-
  'copy' onto a part of a list of the call's own: what the memory of a call knows of it, in one order and in a drawn region.
-/
import Derived.Test.YtffbiflgmlabaaaDoorImA
namespace Go.Proofs.YtffbiflgmlabaaaDoor.K
open Go.RowKit
set_option linter.unusedVariables false


section

variable {w0 w : World} {L : List Cel}

theorem St.splice {i g n c k : Nat} {ys : List Int} (zs : List Int) (h : St w0 w L) (hi : L[i]? = some (il (.slice (some ⟨g, 0, none⟩) n c) n ys)) (hfit : k + zs.length ≤ n) :
    ∃ cur : Array Value, w.heap[g]? = some (.cells cur 3 (0, 0)) ∧ k + zs.length ≤ cur.size ∧
      St w0 (w.setRow g (cur.toList.take k ++ (K.ints zs ++ cur.toList.drop (k + (K.ints zs).length))).toArray) (L.set i (il (.slice (some ⟨g, 0, none⟩) n c) n (ys.take k ++ (zs ++ ys.drop (k + zs.length))))) := by
  obtain ⟨hl, hcase⟩ := h.own hi
  rcases hcase with ⟨hv, -⟩ | ⟨g', cap', cur, hv, hb, hg, hnc, hcm, hcs, htake⟩
  · injection hv with h1 _ _; cases h1
  · obtain ⟨rfl, rfl⟩ : g = g' ∧ c = cap' := by
      injection hv with h1 _ h3
      injection h1 with h1
      injection h1 with h1 _ _
      exact ⟨h1, h3⟩
    clear hv
    have hyl : ys.length = n := by simpa [il, K.ints] using hl
    have hcur : n ≤ cur.size := by
      have : cur.size = c * 1 := hcs
      have : n ≤ c := hnc
      omega
    have hlen : (K.ints zs).length = zs.length := by simp [K.ints]
    have htk : cur.toList.take n = K.ints ys := by simpa [il] using htake
    have hyk : K.ints (ys.take k) = cur.toList.take k := by
      have e : K.ints (ys.take k) = (K.ints ys).take k := by simp [K.ints, List.map_take]
      rw [e, ← htk, List.take_take, Nat.min_eq_left (by omega)]
    have hyd : K.ints (ys.drop (k + zs.length)) = (cur.toList.take n).drop (k + zs.length) := by
      have e : K.ints (ys.drop (k + zs.length)) = (K.ints ys).drop (k + zs.length) := by simp [K.ints, List.map_drop]
      rw [e, ← htk]
    have hck : (cur.toList.take k).length = k := by rw [List.length_take, Array.length_toList]; omega
    rw [hlen]
    refine ⟨cur, hg, by omega, h.mark hi (grown_setRow w g _) ⟨?_, .inr ⟨g, c, _, rfl, hb, setRow_heap w g _ _ _ _ hg, hnc, hcm, ?_, ?_⟩⟩⟩
    · simp [il, K.ints]
      omega
    · show (List.toArray _).size = _
      have : cur.size = c * 1 := hcs
      simp [il]
      omega
    · show List.take (n * 1) _ = K.ints (ys.take k ++ (zs ++ ys.drop (k + zs.length)))
      have e3 : K.ints (ys.take k ++ (zs ++ ys.drop (k + zs.length))) = K.ints (ys.take k) ++ (K.ints zs ++ K.ints (ys.drop (k + zs.length))) := by simp [K.ints]
      rw [e3, hyk, hyd, Nat.mul_one]
      have e4 : (cur.toList.take n).drop (k + zs.length) = (cur.toList.drop (k + zs.length)).take (n - (k + zs.length)) := by rw [List.drop_take]
      rw [e4, List.take_append, List.take_append, hck, hlen, List.take_of_length_le (l := cur.toList.take k) (by rw [hck]; omega), List.take_of_length_le (l := K.ints zs) (by rw [hlen]; omega), Nat.sub_sub]

theorem wp_copyG {o' : Oper} {a : Act} {K : Act → World → Prop} {Q : Exit → Act → World → Prop} (d s : Operand) (t : TypeId)
    (ho : o'.op = .call { callee := .builtin .copy, args := #[d, s], argTypes := #[t, t] }) {i g n c k dl dc sl sc sb so : Nat} {ys : List Int} (zs : List Int) (hu : Tryd.prog.underlying t = some (.slice 3)) (hsz : (Tryd.prog.info? 3).map (·.size) = some 1)
    (h : St w0 w L) (hi : L[i]? = some (il (.slice (some ⟨g, 0, none⟩) n c) n ys)) (hd : a.eval d = .slice (some ⟨g, k, none⟩) dl dc) (hse : a.eval s = .slice (some ⟨sb, so, none⟩) sl sc)
    (hz : zs.length = Nat.min sl dl) (hfit : k + zs.length ≤ n) (hzs : ∀ j, j < zs.length → w.cell? ⟨sb, so + j, none⟩ = some (.int .i64 (zs.getD j 0)))
    (hK : ∀ w', St w0 w' (L.set i (il (.slice (some ⟨g, 0, none⟩) n c) n (ys.take k ++ (zs ++ ys.drop (k + zs.length))))) → K (a.put o'.dst (goInt zs.length)) w') : Oper.wp Tryd.prog o' a w K Q := by
  obtain ⟨cur, hg, hc, hS⟩ := St.splice zs h hi hfit
  have hlen : (ints zs).length = zs.length := by simp [ints]
  have hrun := run_copy_row (P := Tryd.prog) w t t o'.type 3 g k dl dc ⟨sb, so, none⟩ sl sc cur 3 (ints zs) hu hsz hg (by rw [hlen]; exact hz) (fun j v hj => by
      have hjl : j < zs.length := by
        have := (List.getElem?_eq_some_iff.1 hj).1
        simpa [ints] using this
      rw [add_at, hzs j hjl, ← hj]
      exact (ints_at zs hjl).symm) (by rw [hlen]; exact hc) (fun v hv => by
      obtain ⟨z, _, rfl⟩ := List.mem_map.1 hv
      rfl)
  unfold Oper.wp
  simp [execOp, ho, resolve, invoke, builtin, hd, hse, hrun, Result.andThen]
  rw [hlen]
  have h1 := hK _ hS
  rw [hlen] at h1
  exact h1

theorem wpList_copyG {ops : Array Oper} {rest : List Oper} {o' : Oper} {a : Act} {Q : Exit → Act → World → Prop} (hgd : o'.guard = none) (d s : Operand) (t : TypeId)
    (ho : o'.op = .call { callee := .builtin .copy, args := #[d, s], argTypes := #[t, t] }) {i g n c k dl dc sl sc sb so : Nat} {ys : List Int} (zs : List Int) (hu : Tryd.prog.underlying t = some (.slice 3)) (hsz : (Tryd.prog.info? 3).map (·.size) = some 1)
    (h : St w0 w L) (hi : L[i]? = some (il (.slice (some ⟨g, 0, none⟩) n c) n ys)) (hd : a.eval d = .slice (some ⟨g, k, none⟩) dl dc) (hse : a.eval s = .slice (some ⟨sb, so, none⟩) sl sc)
    (hz : zs.length = Nat.min sl dl) (hfit : k + zs.length ≤ n) (hzs : ∀ j, j < zs.length → w.cell? ⟨sb, so + j, none⟩ = some (.int .i64 (zs.getD j 0)))
    (hK : ∀ w', St w0 w' (L.set i (il (.slice (some ⟨g, 0, none⟩) n c) n (ys.take k ++ (zs ++ ys.drop (k + zs.length))))) → wpList Tryd.prog ops Q rest (a.put o'.dst (goInt zs.length)) w') : wpList Tryd.prog ops Q (o' :: rest) a w :=
  wpList_plain hgd fun _ hk => wp_copyG d s t ho zs hu hsz h hi hd hse hz hfit hzs fun w' h2 => hk _ _ (hK w' h2)

theorem step_copyG {ops : Array Oper} {o' : Oper} {a : Act} {K : Act → World → Prop} {Q : Exit → Act → World → Prop} {F : Prop} (hgd : o'.guard = none) (d s : Operand) (t : TypeId)
    (ho : o'.op = .call { callee := .builtin .copy, args := #[d, s], argTypes := #[t, t] }) {i g n c k dl dc sl sc sb so : Nat} {ys : List Int} (zs : List Int) (hu : Tryd.prog.underlying t = some (.slice 3)) (hsz : (Tryd.prog.info? 3).map (·.size) = some 1)
    (h : St w0 w L) (hi : L[i]? = some (il (.slice (some ⟨g, 0, none⟩) n c) n ys)) (hd : a.eval d = .slice (some ⟨g, k, none⟩) dl dc) (hse : a.eval s = .slice (some ⟨sb, so, none⟩) sl sc)
    (hz : zs.length = Nat.min sl dl) (hfit : k + zs.length ≤ n) (hzs : ∀ j, j < zs.length → w.cell? ⟨sb, so + j, none⟩ = some (.int .i64 (zs.getD j 0)))
    (hK : ∀ w', St w0 w' (L.set i (il (.slice (some ⟨g, 0, none⟩) n c) n (ys.take k ++ (zs ++ ys.drop (k + zs.length))))) → K (a.put o'.dst (goInt zs.length)) w') :
    if Region.wanted o' (yielded ops a.tmps) = true then Oper.wp Tryd.prog o' a w K Q else F := by
  have hw : Region.wanted o' (yielded ops a.tmps) = true := by simp [Region.wanted, hgd]
  rw [if_pos hw]
  exact wp_copyG d s t ho zs hu hsz h hi hd hse hz hfit hzs hK

set_option maxRecDepth 100000 in
/-- 'make([]int, n)' in a drawn region. -/
theorem upon_makeI {o' : Oper} {a : Act} {K : Act → World → Prop} {Q : Exit → Act → World → Prop} (t : TypeId) {n : Nat} {io : TypeInfo} (hu : Tryd.prog.underlying t = some (.slice 3)) (hi : Tryd.prog.info? 3 = some io) (hi0 : io.zero = some (.int .i64 0)) (hi1 : io.size = 1) (hi2 : io.bytes = 8)
    (h : St w0 w L) (hn : n ≤ 1048576)
    (hK : ∀ g w', w0.heap.size ≤ g → St w0 w' (il (.slice (some ⟨g, 0, none⟩) n n) n (List.replicate n 0) :: L) → K (a.put o'.dst (.slice (some ⟨g, 0, none⟩) n n)) w') :
    Oper.upon Tryd.prog o' a K Q ((Sem.run Tryd.prog (Instr.makeSlice t (.int .i64 (n : Int)) (.int .i64 (n : Int))) w).andThen fun a w' => Result.ok (Next.value a) w') := by
  obtain ⟨w', hrun, r1, r2⟩ := run_make_full (P := Tryd.prog) w w.heap.size t 3 io (.int .i64 0) 1 hu hi hi0 hi1 .i64 .i64 n (by rw [hi2]; omega) (by unfold maxLen; omega) (Nat.le_refl _)
  refine (congrArg (fun r => Oper.upon Tryd.prog o' a K Q (Result.andThen r fun a w' => Result.ok (Next.value a) w')) hrun).mpr ?_
  rw [zeros] at r1
  have hS := h.new ((Below.refl _ _).grown r2 (Nat.le_refl _) (by simp)) r1
  exact hK _ _ h.size hS


end


end Go.Proofs.YtffbiflgmlabaaaDoor.K
