/-
  A region that draws its order and holds calls: where each operation yields ONE value in whatever world meets S, and leaves a world that meets S, one order stands for all.
-/
import Derived.Deep.RegionHeld
namespace Go.Proofs.YtffbiflgmlabaaaGreatDoor.C
open Go
set_option linter.unusedVariables false


section

variable {P : Program} {ops : Array Oper} {Q : Exit → Act → World → Prop} {md : Region.Mode} {S : World → Prop}

/-- In every world that meets S operation 'o' yields 'v', and leaves a world that meets S: it reads, or it calls. -/
def Yld (P : Program) (ops : Array Oper) (S : World → Prop) (o : Oper) (v : Value) (a : Act) : Prop :=
  (Region.wanted o (yielded ops a.tmps) = true ∧ ∀ w, S w → (execOp a.eval o).run P w = .ok (.value v) w ∨ ∃ f args, (execOp a.eval o).run P w = .ok (.enter f args) w ∧ Calls P f args w (fun e w' => e = .returned v ∧ S w')) ∨
  (Region.wanted o (yielded ops a.tmps) = false ∧ v = undef)

theorem Yld.of_same {o : Oper} {v : Value} {a a' : Act} (hy : Yld P ops S o v a) (he : execOp a'.eval o = execOp a.eval o)
    (hw : Region.wanted o (yielded ops a'.tmps) = Region.wanted o (yielded ops a.tmps)) : Yld P ops S o v a' := by
  unfold Yld at *
  rw [he, hw]
  exact hy

theorem Yld.wpOp {i : Nat} {o : Oper} {v : Value} {a : Act} (hi : ops[i]? = some o) (hy : Yld P ops S o v a)
    {K : Act → World → Prop} {w : World} (hS : S w) (h : ∀ w', S w' → K (a.put o.dst v) w') : wpOp P ops Q i K a w := by
  unfold Go.wpOp
  simp only [hi]
  rcases hy with ⟨hw, hv⟩ | ⟨hw, rfl⟩
  · simp only [hw, if_true]
    rcases hv w hS with hv | ⟨f, args, hv, hc⟩
    · simp only [Oper.wp, hv, Oper.upon]; exact .inl (h w hS)
    · simp only [Oper.wp, hv, Oper.upon]
      refine .inl (hc.mono ?_)
      rintro e w' ⟨rfl, hS'⟩
      exact h w' hS'
  · simp only [hw, Bool.false_eq_true, if_false]; exact h w hS

/-- One order, walked to its end. -/
inductive Line (P : Program) (md : Region.Mode) (ops : Array Oper) (Q : Exit → Act → World → Prop) (S : World → Prop) : Nat → Array Bool → Act → Prop
  | done {fuel : Nat} {listed : Array Bool} {a : Act} (hr : Region.ready md ops listed = []) (h : ∀ w, S w → Q .normal a w) : Line P md ops Q S fuel listed a
  | next {fuel : Nat} {listed : Array Bool} {a : Act} {i : Nat} {oi : Oper} {v : Value} (hi : ops[i]? = some oi)
      (hfree : ∀ j oj, ops[j]? = some oj → j ≠ i → listed.getD j true = false → (∀ e ∈ oj.after, Region.binds md e = true → e.on ≠ i) → oi.apart ops oj = true)
      (hr : i ∈ Region.ready md ops listed) (hy : Yld P ops S oi v a) (h : Line P md ops Q S fuel (listed.setIfInBounds i true) (a.put oi.dst v)) : Line P md ops Q S (fuel + 1) listed a

/-- Whatever may come up now may be drawn to the front of the order. -/
theorem Line.front (hs : ∀ (j : Nat) (o : Oper) cs b, ops[j]? = some o → o.op ≠ .select cs b) {fuel : Nat} {listed : Array Bool} {a : Act} (h : Line P md ops Q S fuel listed a) :
    ∀ j ∈ Region.ready md ops listed, ∃ f' oj u, fuel = f' + 1 ∧ ops[j]? = some oj ∧ Yld P ops S oj u a ∧ Line P md ops Q S f' (listed.setIfInBounds j true) (a.put oj.dst u) := by
  induction h with
  | done hr _ => intro j hj; rw [hr] at hj; cases hj
  | @next fuel listed a i oi v hi hfree hr hy h ih =>
    intro j hj
    by_cases hji : j = i
    · subst hji; exact ⟨fuel, oi, v, rfl, hi, hy, h⟩
    · obtain ⟨f', oj, u, rfl, hoj, hyj, hl⟩ := ih j (ready_mono hj hji)
      obtain ⟨hjun, oj', hoj', hall⟩ := mem_ready.1 hj
      obtain rfl : oj = oj' := by rw [hoj] at hoj'; exact Option.some.inj hoj'
      have hnot : ∀ e ∈ oj.after, Region.binds md e = true → e.on ≠ i := fun e he hb heq => by
        have h1 := hall e he hb
        have h0 := (mem_ready.1 hr).1
        rw [heq] at h1
        rcases Nat.lt_or_ge i listed.size with h' | h'
        · simp [h'] at h0 h1; rw [h0] at h1; cases h1
        · simp [Array.getElem?_eq_none h'] at h1
      obtain ⟨h1, h2, h3⟩ := Oper.apart_spec (hfree j oj hoj hji hjun hnot)
      refine ⟨f' + 1, oj, u, rfl, hoj, hyj.of_same (execOp_put oj (fun cs b => hs j oj cs b hoj) a oi.dst v h1).symm (wanted_put oj a oi.dst v h1).symm, ?_⟩
      refine Line.next hi (fun k ok hk hki hun hno => ?_) (ready_mono hr (Ne.symm hji)) (hy.of_same (execOp_put oi (fun cs b => hs i oi cs b hi) a oj.dst u h3) (wanted_put oi a oj.dst u h3)) ?_
      · refine hfree k ok hk hki ?_ hno
        by_cases hjk : j = k
        · subst hjk; exact hjun
        · rw [getD_set_ne true hjk] at hun; exact hun
      · rw [Array.setIfInBounds_comm _ _ hji, ← Act.put_comm a v u h2]
        exact hl

/-- **One order stands for all.** -/
theorem Line.all (hs : ∀ (j : Nat) (o : Oper) cs b, ops[j]? = some o → o.op ≠ .select cs b) : ∀ (fuel : Nat) (listed : Array Bool) (a : Act), Line P md ops Q S fuel listed a → ∀ w, S w → wpAnyH P md ops Q S fuel listed a w
  | 0, _, _, h, w, hS => by
    cases h with
    | done hr hq => exact ⟨hr, hq w hS⟩
  | fuel + 1, listed, a, h, w, hS => by
    refine ⟨fun h0 => ?_, fun j hj => ?_⟩
    · cases h with
      | done hr hq => exact hq w hS
      | next _ _ hr => rw [h0] at hr; cases hr
    · obtain ⟨f', oj, u, e, hoj, hy, hl⟩ := h.front hs j hj
      obtain rfl : fuel = f' := by omega
      exact hy.wpOp hoj hS (fun w' hS' => ⟨hS', Line.all hs fuel _ _ hl w' hS'⟩)

/-! ### The moves of a walk -/
theorem wp_region_line {id : Nat} {a : Act} {w : World} (hm : P.follows .mixedOrders = true) (hs : Region.noSelect ops = true) (hS : S w.drew)
    (h : Line P .any ops Q S ops.size (Array.replicate ops.size false) a) : (Code.region id ops true).wp P Q a w :=
  wp_region_held_drew hm hS fun _ => Line.all (Region.noSelect_spec hs) _ _ _ h _ hS

theorem line_take {i : Nat} {oi : Oper} {v : Value} {fuel : Nat} {listed : Array Bool} {a : Act} (hi : ops[i]? = some oi) (hf : Region.free md ops listed i = true)
    (hr : (Region.ready md ops listed).contains i = true) (hw : Region.wanted oi (yielded ops a.tmps) = true) (hv : ∀ w, S w → (execOp a.eval oi).run P w = .ok (.value v) w)
    (h : Line P md ops Q S fuel (listed.setIfInBounds i true) (a.put oi.dst v)) : Line P md ops Q S (fuel + 1) listed a :=
  .next hi (Region.free_spec hi hf) (by simpa using hr) (.inl ⟨hw, fun w hS => .inl (hv w hS)⟩) h

theorem line_call {i : Nat} {oi : Oper} {v : Value} {fuel : Nat} {listed : Array Bool} {a : Act} (f : FuncId) (args : Array Value) (hi : ops[i]? = some oi) (hf : Region.free md ops listed i = true)
    (hr : (Region.ready md ops listed).contains i = true) (hw : Region.wanted oi (yielded ops a.tmps) = true) (hc : ∀ w, S w → Calls P f args w (fun e w' => e = .returned v ∧ S w'))
    (hv : ∀ w, S w → (execOp a.eval oi).run P w = .ok (.enter f args) w)
    (h : Line P md ops Q S fuel (listed.setIfInBounds i true) (a.put oi.dst v)) : Line P md ops Q S (fuel + 1) listed a :=
  .next hi (Region.free_spec hi hf) (by simpa using hr) (.inl ⟨hw, fun w hS => .inr ⟨f, args, hv w hS, hc w hS⟩⟩) h

theorem line_skip {i : Nat} {oi : Oper} {fuel : Nat} {listed : Array Bool} {a : Act} (hi : ops[i]? = some oi) (hf : Region.free md ops listed i = true)
    (hr : (Region.ready md ops listed).contains i = true) (hw : Region.wanted oi (yielded ops a.tmps) = false)
    (h : Line P md ops Q S fuel (listed.setIfInBounds i true) (a.put oi.dst undef)) : Line P md ops Q S (fuel + 1) listed a :=
  .next hi (Region.free_spec hi hf) (by simpa using hr) (.inr ⟨hw, rfl⟩) h


end


end Go.Proofs.YtffbiflgmlabaaaGreatDoor.C
