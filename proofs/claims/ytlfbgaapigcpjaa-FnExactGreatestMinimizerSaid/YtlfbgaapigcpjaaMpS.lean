/-
  Sets kept as maps from numbers to true: what a map of the call's own holds, and a range over it, told by which numbers are in it.
-/
import Derived.Test.YtlfbgaapigcpjaaBase
import Derived.Maps.RangeWalk
import Derived.Maps.OwnOps
namespace Go.Proofs.Ytlfbgaapigcpjaa.K
open Go.RowKit Go.ChangeMaps Go.MapKept
open Go.WideElems (Fit)
open Go.Maps (Keyed)
set_option linter.unusedVariables false
set_option linter.unusedSimpArgs false

def onlyTrue (v : Value) : Option (DataW Unit × List MemPlace) :=
  match v with
  | .bool true => some (.lit (.bool true), [])
  | _ => none
theorem onlyTrue_inv {v : Value} {y : DataW Unit × List MemPlace} (h : onlyTrue v = some y) : v = .bool true := by
  unfold onlyTrue at h
  split at h
  · rfl
  · cases h
/-- Block b is a map of at most n entries; x is in it just if T x. -/
def MapS (P : Program) (k : TypeId) (w : World) (b n : Nat) (T : Int → Bool) : Prop :=
  ∃ D : DataW Unit, w.ownsMap P k onlyTrue b n D ∧ ∀ x, Maps.has D (.int .i64 x) = T x
/-- .. and block r ranges over it; x is still to come just if left x; cnt are. -/
def RngS (P : Program) (k : TypeId) (w : World) (b r n : Nat) (T left : Int → Bool) (cnt : Nat) : Prop :=
  ∃ (D : DataW Unit) (lf : Lit → Bool), w.ranges P k onlyTrue b r n D lf cnt ∧ (∀ x, Maps.has D (.int .i64 x) = T x) ∧ ∀ x, lf (.int .i64 x) = left x


section

variable {P : Program} {k t e : TypeId} {w w' : World} {b r n cnt : Nat} {T left : Int → Bool}

theorem grown_of_below (h : Below w.heap.size w w') : w.grownBy w' none := ⟨h.os, h.tape, h.output, h.size, fun i hi _ => h.block i hi⟩

theorem below_of_grown (h : w.grownBy w' none) : Below w.heap.size w w' := ⟨h.os, h.tape, h.output, h.size, fun i hi => h.block i hi (by simp)⟩

theorem MapS.made (w : World) : MapS P k (w.alloc (.map #[] 0)) w.heap.size 0 (fun _ => false) := ⟨_, World.ownsMap_made w P k _, fun x => rfl⟩
theorem MapS.mono (h : MapS P k w b n T) {m : Nat} (hn : n ≤ m) : MapS P k w b m T := let ⟨D, h1, h2⟩ := h; ⟨D, h1.mono hn, h2⟩
theorem MapS.lt (h : MapS P k w b n T) : b < w.heap.size := let ⟨_, h1, _⟩ := h; h1.lt
theorem MapS.kept {row : Option Nat} (h : MapS P k w b n T) (hg : w.grownBy w' row) (hne : some b ≠ row) : MapS P k w' b n T := let ⟨D, h1, h2⟩ := h; ⟨D, h1.kept hg hne, h2⟩
theorem MapS.below (h : MapS P k w b n T) (hb : Below w.heap.size w w') : MapS P k w' b n T := h.kept (grown_of_below hb) (by simp)
theorem MapS.congr {U : Int → Bool} (h : MapS P k w b n T) (hU : ∀ x, T x = U x) : MapS P k w b n U := let ⟨D, h1, h2⟩ := h; ⟨D, h1, fun x => (h2 x).trans (hU x)⟩

theorem same_int (x y : Int) : (Lit.int .i64 x).sameKey (.int .i64 y) = decide (x = y) := by
  by_cases e : x = y
  · subst e; simp [Lit.sameKey]
  · simp [Lit.sameKey, e]

theorem MapS.put (h : MapS P k w b n T) (hk : P.underlying k = some (.int .i64)) (ht : P.underlying t = some (.map k e)) (hn : n < 1048576) {y : Int} (hy : -9223372036854775808 ≤ y ∧ y ≤ 9223372036854775807) :
    ∃ w', (Instr.mapUpdate t (.map (some b)) (.int .i64 y) (.bool true)).run P w = .ok () w' ∧ MapS P k w' b (n + 1) (fun x => T x || decide (x = y)) ∧ w.grownBy w' (some b) := by
  obtain ⟨D, h1, h2⟩ := h
  have hd := h1.isMap
  obtain ⟨w', hr, h3, h4⟩ := h1.update (Maps.int_keyed hk) ht (by unfold maxLen; omega) (Maps.keyOf_int_mk hk (WalkArith.wf_i64 hy)) (val := .bool true) (d := .lit (.bool true)) (ps := []) rfl
  refine ⟨w', hr, ⟨_, h3, fun x => ?_⟩, h4⟩
  by_cases e : x = y
  · subst e
    rw [Maps.has_put_same hd (by trivial)]
    simp
  · rw [Maps.has_put_other (fun e2 => e (by injection e2)), h2]
    simp [e]

theorem MapS.look (h : MapS P k w b n T) (hk : P.underlying k = some (.int .i64)) (ht : P.underlying t = some (.map k e)) (hz : (zeroValue e).run P w = .ok (.bool false) w) {y : Int} (hy : -9223372036854775808 ≤ y ∧ y ≤ 9223372036854775807) :
    (Instr.lookup t (.map (some b)) (.int .i64 y) false).run P w = .ok (.bool (T y)) w := by
  obtain ⟨D, ⟨es, clock, hb, F, _, rfl⟩, h2⟩ := h
  rcases Maps.fit_look false (Maps.int_keyed hk) ht hz hb F (Maps.keyOf_int_mk hk (WalkArith.wf_i64 hy)) with ⟨hrun, _, hat⟩ | ⟨e0, z, _, _, hrun, hRv, hat, _⟩
  · rw [← h2, Maps.has_false_of_atKey hat]; exact hrun
  · rw [← h2, Maps.has_true_of_atKey hat, hrun, onlyTrue_inv hRv]; rfl

theorem MapS.clear (h : MapS P k w b n T) (ht : P.underlying t = some (.map k e)) (ty : TypeId) :
    ∃ v w', (Builtin.clear_ #[t] ty #[.map (some b)]).run P w = .ok v w' ∧ MapS P k w' b 0 (fun _ => false) ∧ w.grownBy w' (some b) := by
  obtain ⟨D, ⟨es, clock, hb, F, _, rfl⟩, h2⟩ := h
  refine ⟨.tuple #[], setBlock w b (.map #[] clock), ?_, ⟨.map [], ⟨#[], clock, heap_setBlock_same hb _, ⟨by simp, stamped_empty clock, by simp⟩, Nat.le_refl _, rfl⟩, fun x => rfl⟩, ⟨rfl, rfl, rfl, by simp [setBlock], fun i _ hi => heap_setBlock_other hb _ (fun e => hi (by rw [e]))⟩⟩
  simp [Builtin.clear_, run_underlying ht, MapKept.run_getObj_map hb, MapKept.run_setObj_map _ hb, Result.andThen, setBlock]

theorem RngS.map (h : RngS P k w b r n T left cnt) : MapS P k w b n T := let ⟨D, lf, h1, h2, _⟩ := h; ⟨D, h1.owns, h2⟩
theorem RngS.ne (h : RngS P k w b r n T left cnt) : r ≠ b := let ⟨_, _, h1, _⟩ := h; h1.ne
theorem RngS.lt (h : RngS P k w b r n T left cnt) : r < w.heap.size := let ⟨_, _, h1, _⟩ := h; h1.lt
theorem RngS.left_eq (h : RngS P k w b r n T left cnt) : w.rangeLeft b r = cnt := let ⟨_, _, h1, _⟩ := h; h1.left_eq
theorem RngS.kept {row : Option Nat} (h : RngS P k w b r n T left cnt) (hg : w.grownBy w' row) (hb : some b ≠ row) (hr : some r ≠ row) : RngS P k w' b r n T left cnt := let ⟨D, lf, h1, h2⟩ := h; ⟨D, lf, h1.kept hg hb hr, h2⟩
theorem RngS.below (h : RngS P k w b r n T left cnt) (hb : Below w.heap.size w w') : RngS P k w' b r n T left cnt := h.kept (grown_of_below hb) (by simp) (by simp)

end



section

variable {P : Program} {k t e : TypeId} (w : World) {b r n cnt : Nat} {T left : Int → Bool} {ops : Array Oper} {rest : List Oper} {o : Oper} {a : Act} {Q : Exit → Act → World → Prop}

/-- 'm[y] = true'. -/
theorem wpList_putS (hg : o.guard = none) (m x v : Operand) (hop : o.op = Op.mapUpdate t m x v) (hk : P.underlying k = some (.int .i64)) (ht : P.underlying t = some (.map k e)) (h : MapS P k w b n T) (hn : n < 1048576) (y : Int) (hy : -9223372036854775808 ≤ y ∧ y ≤ 9223372036854775807)
    (hm : a.eval m = .map (some b)) (hx : a.eval x = .int .i64 y) (hv : a.eval v = .bool true)
    (hK : ∀ w', MapS P k w' b (n + 1) (fun x => T x || decide (x = y)) → w.grownBy w' (some b) → wpList P ops Q rest (a.put o.dst undef) w') : wpList P ops Q (o :: rest) a w := by
  refine wpList_plain hg fun K' hK' => ?_
  obtain ⟨w', hrun, r1, r2⟩ := h.put hk ht hn hy
  unfold Oper.wp
  simp [execOp, hop, hm, hx, hv, hrun, Result.andThen]
  exact hK' _ _ (hK w' r1 r2)

/-- 'm[y]'. -/
theorem wpList_lookS (hg : o.guard = none) (m x : Operand) (hop : o.op = Op.lookup t m x false) (hk : P.underlying k = some (.int .i64)) (ht : P.underlying t = some (.map k e)) (hz : ∀ w, (zeroValue e).run P w = .ok (.bool false) w) (h : MapS P k w b n T) (y : Int) (hy : -9223372036854775808 ≤ y ∧ y ≤ 9223372036854775807)
    (hm : a.eval m = .map (some b)) (hx : a.eval x = .int .i64 y)
    (hK : wpList P ops Q rest (a.put o.dst (.bool (T y))) w) : wpList P ops Q (o :: rest) a w := by
  refine wpList_plain hg fun K' hK' => ?_
  unfold Oper.wp
  simp [execOp, hop, hm, hx, h.look hk ht (hz w) hy, Result.andThen]
  exact hK' _ _ hK

/-- 'clear(m)'. -/
theorem wpList_clearS (hg : o.guard = none) (m : Operand) (hop : o.op = Op.call { callee := Callee.builtin Builtin.clear, args := #[m], argTypes := #[t] }) (ht : P.underlying t = some (.map k e)) (h : MapS P k w b n T) (hm : a.eval m = .map (some b))
    (hK : ∀ v w', MapS P k w' b 0 (fun _ => false) → w.grownBy w' (some b) → wpList P ops Q rest (a.put o.dst v) w') : wpList P ops Q (o :: rest) a w := by
  refine wpList_plain hg fun K' hK' => ?_
  obtain ⟨v, w', hrun, r1, r2⟩ := h.clear ht o.type
  unfold Oper.wp
  simp [execOp, hop, resolve, invoke, builtin, hm, hrun, Result.andThen]
  exact hK' _ _ (hK v w' r1 r2)

/-- 'range m'. -/
theorem wpList_rangeS (hg : o.guard = none) (m : Operand) (hop : o.op = Op.range t m) (hk : P.underlying k = some (.int .i64)) (ht : P.underlying t = some (.map k e)) (h : MapS P k w b n T) (hm : a.eval m = .map (some b))
    (hK : ∀ w' cnt, cnt ≤ n → RngS P k w' b w.heap.size n T T cnt → w.grownBy w' none → w'.heap.size = w.heap.size + 1 → wpList P ops Q rest (a.put o.dst (.pointer (some ⟨w.heap.size, 0, none⟩))) w') : wpList P ops Q (o :: rest) a w := by
  obtain ⟨D, h1, h2⟩ := h
  exact wpList_range_own w hg m t hop k e (Maps.int_keyed hk) ht onlyTrue b n D hm h1 fun w' r1 r2 r3 => hK w' _ h1.size_le ⟨D, _, r1, h2, h2⟩ r2 r3

/-- The next one of a range. -/
theorem wpList_nextS (hg : o.guard = none) (it : Operand) (hop : o.op = Op.next it false) (hk : P.underlying k = some (.int .i64)) (hit : a.eval it = .pointer (some ⟨r, 0, none⟩)) (h : RngS P k w b r n T left cnt)
    (hDone : (∀ x, left x = false) → wpList P ops Q rest (a.put o.dst (.tuple #[.bool false])) w)
    (hMore : ∀ (x : Int) (w' : World) (cnt' : Nat), left x = true → T x = true → RngS P k w' b r n T (fun z => left z && !decide (z = x)) cnt' → cnt' < cnt → w.grownBy w' (some r) → w'.heap.size = w.heap.size →
      (Instr.entry (.pointer (some ⟨r, 0, none⟩))).run P w' = .ok (.tuple #[.int .i64 x, .bool true]) w' → wpList P ops Q rest (a.put o.dst (.tuple #[.bool true, .int .i64 x, .bool true])) w') : wpList P ops Q (o :: rest) a w := by
  obtain ⟨D, lf, h1, h2, h3⟩ := h
  refine wpList_next_ranges w hg it hop k (Maps.int_keyed hk) onlyTrue (Value.int .i64) (fun _ : Unit => Value.bool true) (fun key kl hkey => by obtain ⟨x, rfl, _⟩ := Maps.keyOf_int_inv hk hkey; exact ⟨x, rfl⟩) (fun v y hv => ⟨(), onlyTrue_inv hv⟩) b r n D lf cnt hit h1 (fun _ hl => hDone fun x => (h3 x).symm.trans (hl _)) ?_
  intro x c kl y w' cnt' hkey hlk hv hat hrg hlt hgr hsz hen
  obtain ⟨x', ex, rfl, hwx⟩ := Maps.keyOf_int_inv hk hkey
  cases ex
  have hT : T x = true := by rw [← h2]; exact Maps.has_true_of_atKey hat
  exact hMore x w' cnt' ((h3 x).symm.trans hlk) hT ⟨D, _, hrg, h2, fun z => by show (lf (.int .i64 z) && !(Lit.int .i64 z).sameKey (.int .i64 x)) = _; rw [h3, same_int]⟩ hlt hgr hsz hen

end


/-- A row of cells is no map, no iterator. -/
theorem far_map {P : Program} {k : TypeId} {w : World} {b m : Nat} {T : Int → Bool} {lo s n : Nat} {t : TypeId} {v : Value} {cs : List Value} (h : w.ownsRow lo t s v n cs) (hm : MapS P k w b m T) : v.ownBlock ≠ some b := by
  obtain ⟨D, ⟨es, clock, hb, _⟩, _⟩ := hm
  rcases h.2 with ⟨rfl, _⟩ | ⟨g, cap, cur, rfl, _, hg, _⟩
  · simp [Value.ownBlock]
  · intro e
    obtain rfl : g = b := Option.some.inj e
    rw [hb] at hg
    cases hg
theorem far_iter {P : Program} {k : TypeId} {w : World} {b r m cnt : Nat} {T left : Int → Bool} {lo s n : Nat} {t : TypeId} {v : Value} {cs : List Value} (h : w.ownsRow lo t s v n cs) (hm : RngS P k w b r m T left cnt) : v.ownBlock ≠ some r := by
  obtain ⟨D, lf, ⟨_, _, _, _, _, _, _, _, _, hit, _⟩, _⟩ := hm
  rcases h.2 with ⟨rfl, _⟩ | ⟨g, cap, cur, rfl, _, hg, _⟩
  · simp [Value.ownBlock]
  · intro e
    obtain rfl : g = r := Option.some.inj e
    rw [hit] at hg
    cases hg
theorem far_box {g b : Nat} {t : TypeId} {cs : List Value} (h : g ≠ b) : (bx g t cs).v.ownBlock ≠ some b := fun e => h (Option.some.inj e)
/-- A block of the call's own that is none of the rows has turned. -/
theorem St.grown {w0 w w' : World} {L : List Cel} {b : Nat} (h : St w0 w L) (hg : w.grownBy w' (some b)) (hb : w0.heap.size ≤ b) (hn : ∀ q ∈ L, q.v.ownBlock ≠ some b) : St w0 w' L :=
  ⟨h.1.grown hg h.1.size (fun k hk => by cases hk; exact hb), fun q hq => (h.2.1 q hq).kept hg (by
    cases hv : q.v.ownBlock with
    | none => exact .inl rfl
    | some j => exact .inr (fun e => hn q hq (hv.trans e))), h.2.2⟩
/-- The range's own block has turned: the rows stay. -/
theorem St.stepped {P : Program} {k : TypeId} {w0 w w' : World} {L : List Cel} {b r m cnt : Nat} {T left : Int → Bool} (h : St w0 w L) (hm : RngS P k w b r m T left cnt) (hg : w.grownBy w' (some r)) (hr : w0.heap.size ≤ r) : St w0 w' L :=
  h.grown hg hr fun q hq => far_iter (h.2.1 q hq) hm
theorem St.stored {P : Program} {k : TypeId} {w0 w w' : World} {L : List Cel} {b m : Nat} {T : Int → Bool} (h : St w0 w L) (hm : MapS P k w b m T) (hg : w.grownBy w' (some b)) (hb : w0.heap.size ≤ b) : St w0 w' L :=
  h.grown hg hb fun q hq => far_map (h.2.1 q hq) hm


section

variable {w0 w w' : World} {L : List Cel}
/-- An append of one number, told with what turns by it. -/
theorem wpList_app1g {ops : Array Oper} {rest : List Oper} {o' : Oper} {a : Act} {Q : Exit → Act → World → Prop} (hgd : o'.guard = none) (s x : Operand) (t : TypeId)
    (ho : o'.op = .call { callee := .builtin .append, args := #[s, x], argTypes := #[t, t] })
    {i n g : Nat} {v : Value} {xs : List Int} (y : Int) {o : TypeInfo} (ht : Try.prog.underlying t = some (.slice 3)) (hio : Try.prog.info? 3 = some o) (hz : o.zero = some (.int .i64 0)) (hsz : o.size = 1) (hy : o.bytes = 8)
    (h : St w0 w L) (hi : L[i]? = some (il v n xs)) (hs : a.eval s = v) (hx : a.eval x = .slice (some ⟨g, 0, none⟩) 1 1) (hc : w.cell? ⟨g, 0, none⟩ = some (.int .i64 y)) (hn : n ≤ 1048576)
    (hK : ∀ A' c' w', St w0 w' (L.set i (il (.slice A' (n + 1) c') (n + 1) (xs ++ [y]))) → w.grownBy w' v.ownBlock → wpList Try.prog ops Q rest (a.put o'.dst (.slice A' (n + 1) c')) w') : wpList Try.prog ops Q (o' :: rest) a w := by
  refine wpList_plain hgd fun K hK' => ?_
  obtain ⟨v', w', hr, h2, h3, _, h5⟩ := run_append_own_at (P := Try.prog) w w0.heap.size t o'.type 3 o (.int .i64 0) 1 8 ht hio hz hsz hy rfl (by decide) v n (ints xs) (h.own hi) ⟨g, 0, none⟩ 1 1 [.int .i64 y] rfl (fun j u hu => by
      have : j = 0 := by
        have := (List.getElem?_eq_some_iff.1 hu).1
        simpa using this
      subst this
      rw [List.getElem?_cons_zero] at hu
      cases hu
      simpa [Addr.add] using hc) (fun u hu => by simp at hu; subst hu; rfl) (by unfold maxLen; omega) (by omega) h.size
  obtain ⟨g', cap, hv, _⟩ := h2.form (by omega)
  subst hv
  have h6 := h.app hi h3 h2 h5
  rw [show ints xs ++ [Value.int .i64 y] = ints (xs ++ [y]) by simp [ints]] at h6
  unfold Oper.wp execOp
  simp only [ho, resolve, invoke, builtin, Sem.run_bind, Sem.run_pure, Result.andThen_ok, List.map_toArray, List.map_cons, List.map_nil, hs, hx, hr]
  exact hK' _ _ (hK _ _ _ h6 h3)

end


end Go.Proofs.Ytlfbgaapigcpjaa.K
