/-
  The contracts of the law's own helpers on lists of lists: comparison, marks.
-/
import Derived.Test.YtpefnfkodcidkaaLists
import Derived.Test.YtpefnfkodcidkaaLol
namespace Go.Proofs.Ytpefnfkodcidkaa.K
open Go.RowKit
set_option linter.unusedVariables false

/-- Where an outer row that is not empty lies. -/
theorem St.ol_at {w0 w : World} {L : List Cel} {G : Option Addr} {c i k : Nat} {es : List Ent} (h : St w0 w L) (hi : L[i]? = some (ol (.slice G es.length c) es)) (hk : k < es.length) : ∃ g, G = some ⟨g, 0, none⟩ := by
  rcases (h.own hi).2 with ⟨_, h0⟩ | ⟨g, cap, cur, hv, -⟩
  · exact absurd (show es.length = 0 from h0) (by omega)
  · have hv' : Value.slice G es.length c = .slice (some ⟨g, 0, none⟩) es.length cap := hv
    injection hv' with h1
    exact ⟨g, h1⟩
/-- A list of lists, to be read: the cells at G are slices, each reads as its list. -/
structure LLs (w : World) (G : Option Addr) (es : List Ent) : Prop where
  at_ : ∀ j e, es[j]? = some e → ∃ g, G = some ⟨g, 0, none⟩ ∧ w.cell? ⟨g, j, none⟩ = some (sv e) ∧ g < w.heap.size ∧ Ints w w.heap.size e.1 e.2.2
theorem LLs.below {w w' : World} {G : Option Addr} {es : List Ent} (h : LLs w G es) (hb : Below w.heap.size w w') : LLs w' G es :=
  ⟨fun j e he => by
    obtain ⟨g, h0, h1, h2, h3⟩ := h.at_ j e he
    exact ⟨g, h0, (hb.cell (p := ⟨g, j, none⟩) h2).trans h1, Nat.lt_of_lt_of_le h2 hb.size, (h3.below hb).mono hb.size⟩⟩
theorem St.lls {w0 w : World} {L : List Cel} {G : Option Addr} {c i : Nat} {es : List Ent} (h : St w0 w L) (hi : L[i]? = some (ol (.slice G es.length c) es)) (hm : ∀ e ∈ es, ir e ∈ L) : LLs w G es :=
  ⟨fun j e he => by
    obtain ⟨g, rfl⟩ := h.ol_at hi (List.getElem?_eq_some_iff.1 he).1
    exact ⟨g, rfl, h.cellL hi he, ((h.own hi).lt g rfl).2, (OwnN.own (h.2.1 _ (hm e (List.mem_of_getElem? he)))).read⟩⟩
/-- The first numbers' sum of lengths. -/
def offL (es : List Ent) : Nat → Nat
  | 0 => 0
  | j + 1 => offL es j + (es.getD j (none, 0, [])).2.2.length
/-- The first i lists marked. -/
def markE (k : Int) (es : List Ent) (i : Nat) : List Ent := es.mapIdx fun j e => if j < i then (e.1, e.2.1, iota (k + offL es j) e.2.2.length) else e
theorem markE_zero (k : Int) (es : List Ent) : markE k es 0 = es := by
  unfold markE
  apply List.ext_getElem?
  intro j
  simp
theorem markE_len (k : Int) (es : List Ent) (i : Nat) : (markE k es i).length = es.length := by simp [markE]
theorem markE_at (k : Int) (es : List Ent) (i j : Nat) : (markE k es i)[j]? = (es[j]?).map fun e => if j < i then (e.1, e.2.1, iota (k + offL es j) e.2.2.length) else e := by
  unfold markE
  rw [List.getElem?_mapIdx]
theorem markE_sv (k : Int) (es : List Ent) (i : Nat) : (markE k es i).map sv = es.map sv := by
  apply List.ext_getElem?
  intro j
  rw [List.getElem?_map, List.getElem?_map, markE_at]
  cases es[j]? with
  | none => rfl
  | some e =>
    simp only [Option.map_some]
    by_cases h : j < i
    · rw [if_pos h]; unfold sv; rw [iota_length]
    · rw [if_neg h]
theorem markE_succ (k : Int) (es : List Ent) {i : Nat} {e : Ent} (he : es[i]? = some e) : (markE k es (i + 1)).map ir = ((markE k es i).map ir).set i (il (sv e) e.2.2.length (iota (k + offL es i) e.2.2.length)) := by
  have hil : i < es.length := (List.getElem?_eq_some_iff.1 he).1
  apply List.ext_getElem?
  intro j
  rw [List.getElem?_map, List.getElem?_set, List.length_map, markE_len, markE_at, List.getElem?_map, markE_at]
  by_cases hij : i = j
  · subst hij
    rw [if_pos rfl, if_pos hil, he]
    simp only [Option.map_some]
    rw [if_pos (Nat.lt_succ_self i)]
    unfold ir sv
    rw [iota_length]
  · rw [if_neg hij]
    cases es[j]? with
    | none => rfl
    | some e' =>
      simp only [Option.map_some]
      by_cases h : j < i
      · rw [if_pos h, if_pos (by omega)]
      · rw [if_neg h, if_neg (by omega)]

end Go.Proofs.Ytpefnfkodcidkaa.K
namespace Go.Proofs.Ytpefnfkodcidkaa.C
open Go.RowKit K
set_option linter.unusedVariables false
set_option linter.unusedSimpArgs false

theorem quiet_val {P : Program} {f : FuncId} {args : Array Value} {w : World} {n : Nat} {v : Value} (h : Calls P f args (w.drewN n) fun e w' => e = .returned v ∧ ∃ q, (w.drewN n).drewN q = w') :
    Calls P f args (w.drewN n) fun e w'' => e = .returned v ∧ ∃ m, w'' = w.drewN m :=
  h.mono fun _ _ ⟨he, q, hq⟩ => ⟨he, n + q, by rw [← hq]; simp [World.drewN, Nat.add_assoc]⟩

set_option maxRecDepth 100000 in
set_option maxHeartbeats 1600000 in
theorem eqLL_same (G G' : Option Addr) (c c' : Nat) (es es' : List Ent) (w : World) (h : Hid (LLs w G es)) (h' : Hid (LLs w G' es')) (he : es.map (fun e => e.2.2) = es'.map (fun e => e.2.2)) (hs : ∀ e ∈ es, e.2.2.length ≤ 1048576) (hl : es.length ≤ 1048576) :
    Calls Try.prog 17 #[.slice G es.length c, .slice G' es'.length c'] w fun e w' => e = .returned (.bool true) ∧ ∃ n, w.drewN n = w' := by
  have hll : es'.length = es.length := by have := congrArg List.length he; simpa using this.symm
  have HE := Lib.hid (fun j (hj : j < es.length) => show ∃ e e', es[j]? = some e ∧ es'[j]? = some e' ∧ e.2.2 = e'.2.2 ∧ e.2.2.length ≤ 1048576 from by
    refine ⟨es[j], es'[j], by simp, by simp, ?_, hs _ (List.getElem_mem hj)⟩
    have := congrArg (fun l => l[j]?) he
    simpa [hj, hll] using this)
  obtain ⟨n, hn⟩ : ∃ n, es.length = n := ⟨_, rfl⟩
  rw [hll, hn]
  rw [hn] at HE hl
  have hbe : ((n : Int) != (n : Int)) = false := by simp
  clear he hs hll hn
  go_enter Try.func17, Try.ntmps17
  go_wp2
  go_loopw [5] (fun i wr => ∃ j q : Nat, i = .int .i64 j ∧ j ≤ n ∧ w.drewN q = wr) (fun i _ => n - (intOf i).toNat)
  case atStart => exact ⟨0, 0, rfl, Nat.zero_le _, rfl⟩
  case round =>
    obtain ⟨j, q, rfl, hj, hq⟩ := hrel
    by_cases hlt : j < n
    · obtain ⟨⟨A, a, xs⟩, ⟨D, d, ys⟩, h1, h2, h3, h4⟩ := HE.out j hlt
      obtain rfl : xs = ys := h3
      obtain ⟨g, rfl, k1', -, i1'⟩ := h.out.at_ j _ h1
      obtain ⟨g', rfl, k2', -, i2'⟩ := h'.out.at_ j _ h2
      have k1 : wr.cell? ⟨g, j, none⟩ = some (.slice A xs.length a) := by rw [← hq]; exact k1'
      have k2 : wr.cell? ⟨g', j, none⟩ = some (.slice D xs.length d) := by rw [← hq]; exact k2'
      have i1 : Ints wr wr.heap.size A xs := by rw [← hq]; exact i1'
      have i2 : Ints wr wr.heap.size D xs := by rw [← hq]; exact i2'
      have HQ := Lib.hid (fun k => eqInts_same A D xs a d (wr.drewN k) (Lib.hid i1) (Lib.hid i2) (by have : xs.length ≤ 1048576 := h4; omega))
      have hj0 : (0 : Int) ≤ (j : Int) := by omega
      have hji : (j : Int) < (n : Int) := by omega
      have HWQ := Lib.hid hq
      clear h1 h2 h4 i1 i2 hq k1' k2' i1' i2'
      go_wp2
      go_quiet ((go_at_call 10; exact quiet_val (HQ.out _)))
      go_wp2
      go_roundw
      case rel => exact ⟨j + 1, q + nq, by go_num, by omega, by rw [← HWQ.out]; simp [World.drewN, Nat.add_assoc]⟩
      case measure => simp [intOf]; omega
    · obtain rfl : j = n := by omega
      have hji : ¬ (j : Int) < (j : Int) := by omega
      go_wp2
      go_ret
      exact ⟨rfl, q, hq⟩

set_option maxRecDepth 100000 in
set_option maxHeartbeats 1600000 in
theorem heldLL_any (G : Option Addr) (c : Nat) (es : List Ent) (k : Int) (w : World) (h : Hid (LLs w G (markE k es es.length))) (h0 : 0 ≤ k) (hk : k ≤ 1000000) (hs : ∀ e ∈ es, e.2.2.length ≤ 1048576) (ho : ∀ j, j ≤ es.length → offL es j ≤ 1099511627776) (hl : es.length ≤ 1048576) :
    Calls Try.prog 19 #[.slice G es.length c, .int .i64 k] w fun e w' => e = .returned (.int .i64 (k + offL es es.length)) ∧ w = w' := by
  have HE := Lib.hid (fun j (hj : j < es.length) => show ∃ A a m, (markE k es es.length)[j]? = some (A, a, iota (k + offL es j) m) ∧ offL es (j + 1) = offL es j + m ∧ m ≤ 1048576 from by
    refine ⟨es[j].1, es[j].2.1, es[j].2.2.length, by rw [markE_at]; simp [hj], by simp [offL, hj], hs _ (List.getElem_mem hj)⟩)
  have HO := Lib.hid ho
  have hz : offL es 0 = 0 := rfl
  generalize offL es = f at *
  generalize markE k es es.length = ms at *
  obtain ⟨n, hn⟩ : ∃ n, es.length = n := ⟨_, rfl⟩
  rw [hn] at HE HO hl ⊢
  clear hs hn ho
  go_enter Try.func19, Try.ntmps19
  go_wp2
  go_loop [1, 5] (fun t i => ∃ j : Nat, i = .int .i64 j ∧ j ≤ n ∧ t = .int .i64 (k + f j)) (fun _ i => n - (intOf i).toNat)
  case atStart => exact ⟨0, rfl, Nat.zero_le _, by rw [hz]; simp⟩
  case round =>
    obtain ⟨j, rfl, hj, rfl⟩ := hrel
    by_cases hlt : j < n
    · obtain ⟨A, a, m, h1, h2, h3⟩ := HE.out j hlt
      have hb := HO.out j hj
      obtain ⟨g, rfl, k1', -, i1⟩ := h.out.at_ j _ h1
      have k1 : w.cell? ⟨g, j, none⟩ = some (.slice A m a) := by
        have := k1'
        unfold sv at this
        rwa [iota_length] at this
      have HQ := Lib.hid (heldInts_any A m a (k + f j) w (Lib.hid i1) (by omega) (by omega) h3)
      clear k1' i1
      have HF := Lib.hid h2
      generalize f j = y at *
      have hj0 : (0 : Int) ≤ (j : Int) := by omega
      have hji : (j : Int) < (n : Int) := by omega
      have hnn : ¬ (k + (y : Int) + (m : Int) < 0) := by omega
      clear h1 h2 hz
      go_wp2_with (go_at_call 14; refine HQ.out.mono ?_; rintro e w2 ⟨rfl, rfl⟩)
      go_round
      case rel => exact ⟨j + 1, by go_num, by omega, by rw [HF.out]; go_num⟩
      case measure => simp [intOf]; omega
    · obtain rfl : j = n := by omega
      have hji : ¬ (j : Int) < (j : Int) := by omega
      go_wp2
      go_ret
      exact ⟨rfl, rfl⟩

set_option maxRecDepth 100000 in
set_option maxHeartbeats 1600000 in
theorem markLL_any (G : Option Addr) (c : Nat) (es : List Ent) (k : Int) (w0 w : World) (L : List Cel) (h : Hid (St w0 w (lol (.slice G es.length c) es ++ L))) (h0 : 0 ≤ k) (hk : k ≤ 1000000) (hs : ∀ e ∈ es, e.2.2.length ≤ 1048576) (ho : ∀ j, j ≤ es.length → offL es j ≤ 1099511627776) (hl : es.length ≤ 1048576) :
    Calls Try.prog 18 #[.slice G es.length c, .int .i64 k] w fun e w' => e = .returned (.int .i64 (k + offL es es.length)) ∧ St w0 w' (lol (.slice G es.length c) (markE k es es.length) ++ L) := by
  have HE := Lib.hid (fun j (hj : j < es.length) => show ∃ A a xs, es[j]? = some (A, a, xs) ∧ offL es (j + 1) = offL es j + xs.length ∧ xs.length ≤ 1048576 from
    ⟨es[j].1, es[j].2.1, es[j].2.2, by simp [hj], by simp [offL, hj], hs _ (List.getElem_mem hj)⟩)
  have HI := Lib.hid (fun j A a xs (he : es[j]? = some (A, a, xs)) => show (lol (.slice G es.length c) (markE k es j) ++ L)[j + 1]? = some (il (.slice A xs.length a) xs.length xs) from by
    have hj : j < es.length := (List.getElem?_eq_some_iff.1 he).1
    unfold lol
    rw [List.cons_append, List.getElem?_cons_succ, List.getElem?_append_left (by rw [List.length_map, markE_len]; exact hj), List.getElem?_map, markE_at, he]
    simp [ir, sv])
  have HT := Lib.hid (fun j A a xs (he : es[j]? = some (A, a, xs)) => show (lol (.slice G es.length c) (markE k es j) ++ L).set (j + 1) (il (.slice A xs.length a) xs.length (iota (k + offL es j) xs.length)) = lol (.slice G es.length c) (markE k es (j + 1)) ++ L from by
    have hj : j < es.length := (List.getElem?_eq_some_iff.1 he).1
    unfold lol
    rw [List.cons_append, List.set_cons_succ, List.set_append_left _ _ (by rw [List.length_map, markE_len]; exact hj), markE_succ k es he]
    unfold ol
    rw [markE_len, markE_len, markE_sv, markE_sv]
    rfl)
  have HCE := Lib.hid (fun W j A a xs (he : es[j]? = some (A, a, xs)) (hS : St w0 W (lol (.slice G es.length c) (markE k es j) ++ L)) => show ∃ g, G = some ⟨g, 0, none⟩ ∧ W.cell? ⟨g, j, none⟩ = some (.slice A xs.length a) from by
    have hl : j < (markE k es j).length := by rw [markE_len]; exact (List.getElem?_eq_some_iff.1 he).1
    obtain ⟨g, rfl⟩ := hS.ol_at (i := 0) (c := c) (es := markE k es j) (by rw [markE_len]; rfl) hl
    exact ⟨g, rfl, hS.cellL (i := 0) (g := g) (c := c) (es := markE k es j) (by rw [markE_len]; rfl) (k := j) (e := (A, a, xs)) (by rw [markE_at, he]; simp)⟩)
  have HO := Lib.hid ho
  have hz : offL es 0 = 0 := rfl
  have hm0 : St w0 w (lol (.slice G es.length c) (markE k es 0) ++ L) := by rw [markE_zero]; exact h.out
  generalize offL es = f at *
  generalize markE k es = ms at *
  obtain ⟨n, hn⟩ : ∃ n, es.length = n := ⟨_, rfl⟩
  rw [hn] at HE HO HI HT HCE hl hm0 ⊢
  clear hs hn ho h
  have HM0 := Lib.hid hm0
  clear hm0
  go_enter Try.func18, Try.ntmps18
  go_wp2
  go_loopw [1, 5] (fun t i wr => ∃ j : Nat, i = .int .i64 j ∧ j ≤ n ∧ t = .int .i64 (k + f j) ∧ St w0 wr (lol (.slice G n c) (ms j) ++ L)) (fun _ i _ => n - (intOf i).toNat)
  case atStart => exact ⟨0, rfl, Nat.zero_le _, by rw [hz]; simp, HM0.out⟩
  case round =>
    obtain ⟨j, rfl, hj, rfl, hS⟩ := hrel
    by_cases hlt : j < n
    · obtain ⟨A, a, xs, h1, h2, h3⟩ := HE.out j hlt
      have hb := HO.out j hj
      obtain ⟨g, rfl, k1⟩ := HCE.out wr j A a xs h1 hS
      have hidx := HI.out j A a xs h1
      have HT2 := Lib.hid (HT.out j A a xs h1)
      have HQ := Lib.hid (markInts_any A xs a w0.heap.size (k + f j) wr (Lib.hid (hS.ownI hidx)) (by omega) (by omega) h3)
      have HX := Lib.hid hidx
      have HF := Lib.hid h2
      have HS := Lib.hid hS
      have hj0 : (0 : Int) ≤ (j : Int) := by omega
      have hji : (j : Int) < (n : Int) := by omega
      clear h1 h2 hz hS hidx HM0
      go_wp2_with (go_at_call 13; refine HQ.out.mono ?_; rintro e w2 ⟨rfl, ho, hg⟩; have HS2 := Lib.hid (HS.out.markI HX.out hg ho); clear ho hg)
      rw [HT2.out] at HS2
      go_roundw
      case rel => exact ⟨j + 1, by go_num, by omega, by rw [HF.out]; go_num, HS2.out⟩
      case measure => simp [intOf]; omega
    · obtain rfl : j = n := by omega
      have hji : ¬ (j : Int) < (j : Int) := by omega
      have HS := Lib.hid hS
      clear hS
      go_wp2
      go_ret
      exact ⟨rfl, HS.out⟩

end Go.Proofs.Ytpefnfkodcidkaa.C
