/-
  The contract of spec.ModularFunction.
-/
import Derived.Test.YtfpoiiennlhphaaDoorSub
import Derived.Test.YtfpoiiennlhphaaDoorFunS2
namespace Go.Proofs.YtfpoiiennlhphaaDoor.C
open Go.RowKit K M
set_option linter.unusedVariables false
set_option linter.unusedSimpArgs false

theorem weigh_bd {ws : List Int} (hv : ∀ k, k < ws.length → -1000 ≤ ws.getD k 0 ∧ ws.getD k 0 ≤ 1000) (s : Nat) : ∀ i, i ≤ ws.length → -1000 * (i : Int) ≤ weigh ws s i ∧ weigh ws s i ≤ 1000 * (i : Int)
  | 0, _ => by simp [weigh]
  | i + 1, hi => by
    have h1 := weigh_bd hv s i (by omega)
    have h2 := hv i (by omega)
    unfold weigh
    split <;> omega

set_option maxRecDepth 100000 in
set_option maxHeartbeats 1600000 in
theorem weighS_any (A : Option Addr) (ws : List Int) (cap s : Nat) (w : World) (h : Hid (Ints w w.heap.size A ws)) (hv : ∀ k, k < ws.length → -1000 ≤ ws.getD k 0 ∧ ws.getD k 0 ≤ 1000) (hm : ws.length ≤ 5) (hs : s < 4294967296) :
    Calls Tryd.prog 93 #[.slice A ws.length cap, .int .i64 s] w fun e w' => e = .returned (.int .i64 (weigh ws s ws.length)) ∧ ∃ q, w.drewN q = w' := by
  obtain ⟨m, hxm⟩ : ∃ m, ws.length = m := ⟨_, rfl⟩
  have hb := weigh_bd hv s
  rw [hxm] at hm hb ⊢
  have HX := Lib.hid hxm
  have HV := Lib.hid hv
  have HB := Lib.hid hb
  clear hv hxm hb
  go_enter Tryd.func93, Tryd.ntmps93
  go_wp2
  go_loopw [5, 6] (fun n i wr => ∃ k : Nat, i = .int .i64 k ∧ k ≤ m ∧ n = .int .i64 (weigh ws s k) ∧ ∃ q, w.drewN q = wr) (fun _ i _ => m - (intOf i).toNat)
  case atStart => exact ⟨0, rfl, Nat.zero_le _, rfl, 0, rfl⟩
  case round =>
    obtain ⟨k, rfl, hk, rfl, q, rfl⟩ := hrel
    by_cases hlt : k < m
    · obtain ⟨b, off, rfl, hbl, hc⟩ := h.out.at_ (k := k) (by rw [HX.out]; exact hlt)
      obtain ⟨v1, v2⟩ := HV.out k (by rw [HX.out]; exact hlt)
      obtain ⟨g1, g2⟩ := HB.out k (by omega)
      have hstep : weigh ws s (k + 1) = if s.testBit k = true then weigh ws s k + ws.getD k 0 else weigh ws s k := rfl
      generalize weigh ws s k = y at g1 g2 hstep
      generalize ws.getD k 0 = x at hc v1 v2 hstep
      have e1 := bit_val s k hs
      have hk0 : (0 : Int) ≤ (k : Int) := by omega
      have hkn : (k : Int) < (m : Int) := by omega
      have hw : IntKind.i64.wrap (y + x) = y + x := IntWalk.i64_in _ (by omega)
      by_cases t : s.testBit k = true
      · rw [if_pos t] at e1 hstep
        have HS := Lib.hid hstep
        clear hstep
        go_wp2
        go_roundw
        case rel => exact ⟨k + 1, by go_num, by omega, by rw [HS.out], _, rfl⟩
        case measure => simp [intOf]; omega
      · rw [if_neg t] at e1 hstep
        have HS := Lib.hid hstep
        clear hstep
        go_wp2
        go_roundw
        case rel => exact ⟨k + 1, by go_num, by omega, by rw [HS.out], _, rfl⟩
        case measure => simp [intOf]; omega
    · obtain rfl : k = m := by omega
      have hkn : ¬ (k : Int) < (k : Int) := by omega
      go_wp2
      go_ret
      exact ⟨rfl, _, rfl⟩

set_option maxHeartbeats 1600000 in
theorem modfnS_len (A : Option Addr) (m cap : Nat) (c : Int) (w : World) (hm : 5 < m) (hm2 : m ≤ 1048576) :
    Calls Tryd.prog 101 #[.slice A m cap, .int .i64 c] w (RetFB w 0 [] false) := by
  have HW := Lib.hid (St.start w)
  have hg : (5 : Int) < (m : Int) := by omega
  go_enter Tryd.func101, Tryd.ntmps101
  go_wp2
  have hS := HW.out.alloc [.int .i64 0, .slice none 0 0] 26
  exact bodyPost_ret (v := .tuple #[.agg #[.int .i64 0, .slice none 0 0], .bool false]) (by simp [results, Tryd.results101, go_sem]) rfl ⟨none, 0, rfl, Own.nil _ _, hS.base⟩

set_option maxHeartbeats 1600000 in
theorem modfnS_c (A : Option Addr) (m cap : Nat) (c : Int) (w : World) (hm : m ≤ 5) (hc : c < -1000 ∨ 1000 < c) :
    Calls Tryd.prog 101 #[.slice A m cap, .int .i64 c] w (RetFB w 0 [] false) := by
  have HW := Lib.hid (St.start w)
  have HC := Lib.hid hc
  have hg : ¬ (5 : Int) < (m : Int) := by omega
  clear hc
  go_enter Tryd.func101, Tryd.ntmps101
  go_wp2_with (go_at_call 92; refine (in_no c (-1000) 1000 _ HC.out).mono ?_; rintro e w' ⟨rfl, rfl⟩)
  have hS := HW.out.alloc [.int .i64 0, .slice none 0 0] 26
  exact bodyPost_ret (v := .tuple #[.agg #[.int .i64 0, .slice none 0 0], .bool false]) (by simp [results, Tryd.results101, go_sem]) rfl ⟨none, 0, rfl, Own.nil _ _, hS.base⟩

set_option maxRecDepth 100000 in
set_option maxHeartbeats 1600000 in
theorem modfnS_val (A : Option Addr) (ws : List Int) (cap : Nat) (c : Int) (w : World) (h : Hid (Ints w w.heap.size A ws)) (hm : ws.length ≤ 5) (c1 : -1000 ≤ c) (c2 : c ≤ 1000)
    (j : Nat) (hj : j < ws.length) (hb : ws.getD j 0 < -1000 ∨ 1000 < ws.getD j 0) (hv : ∀ k, k < j → -1000 ≤ ws.getD k 0 ∧ ws.getD k 0 ≤ 1000) :
    Calls Tryd.prog 101 #[.slice A ws.length cap, .int .i64 c] w (RetFB w 0 [] false) := by
  have HW := Lib.hid (St.start w)
  obtain ⟨m, hxm⟩ : ∃ m, ws.length = m := ⟨_, rfl⟩
  rw [hxm] at hm hj ⊢
  have HX := Lib.hid hxm
  have HV := Lib.hid hv
  have HB := Lib.hid hb
  have hg : ¬ (5 : Int) < (m : Int) := by omega
  clear hv hxm hb
  go_enter Tryd.func101, Tryd.ntmps101
  go_wp2_with (go_at_call 92; refine (in_yes c (-1000) 1000 _ c1 c2).mono ?_; rintro e w' ⟨rfl, rfl⟩)
  have hS0 := HW.out.alloc [.int .i64 0, .slice none 0 0] 26
  have HS := Lib.hid hS0
  clear hS0
  go_loop [6] (fun i => ∃ k : Nat, k ≤ j ∧ i = .int .i64 k) (fun i => m - (intOf i).toNat)
  case atStart => exact ⟨0, Nat.zero_le _, rfl⟩
  case round =>
    obtain ⟨k, hk, rfl⟩ := hrel
    obtain ⟨b, off, rfl, hbl, hc⟩ := h.out.at_ (k := k) (by rw [HX.out]; omega)
    have d := (HS.out.base.cell (p := ⟨b, off + k, none⟩) hbl).trans hc
    have hk0 : (0 : Int) ≤ (k : Int) := by omega
    have hkn : (k : Int) < (m : Int) := by omega
    clear hc
    by_cases hlt : k < j
    · obtain ⟨v1, v2⟩ := HV.out k hlt
      generalize ws.getD k 0 = x at d v1 v2
      go_wp2_with (go_at_call 92; refine (in_yes x (-1000) 1000 _ v1 v2).mono ?_; rintro e w' ⟨rfl, rfl⟩)
      go_round
      case rel => exact ⟨k + 1, by omega, by go_num⟩
      case measure => simp [intOf]; omega
    · obtain rfl : k = j := by omega
      have hb := HB.out
      clear HB HV
      generalize ws.getD k 0 = x at d hb
      have HB := Lib.hid hb
      clear hb
      go_wp2_with (go_at_call 92; refine (in_no x (-1000) 1000 _ HB.out).mono ?_; rintro e w' ⟨rfl, rfl⟩)
      exact bodyPost_ret (v := .tuple #[.agg #[.int .i64 0, .slice none 0 0], .bool false]) (by simp [results, Tryd.results101, go_sem]) rfl ⟨none, 0, rfl, Own.nil _ _, HS.out.base⟩

set_option maxRecDepth 100000 in
set_option maxHeartbeats 4000000 in
theorem modfnS_good (A : Option Addr) (ws : List Int) (cap : Nat) (c : Int) (w : World) (h : Hid (Ints w w.heap.size A ws)) (hm : ws.length ≤ 5) (c1 : -1000 ≤ c) (c2 : c ≤ 1000) (hv : ∀ k, k < ws.length → -1000 ≤ ws.getD k 0 ∧ ws.getD k 0 ≤ 1000) :
    Calls Tryd.prog 101 #[.slice A ws.length cap, .int .i64 c] w (RetFB w (made (ws.length : Int) (tab (2 ^ ws.length) fun s => c + weigh ws s ws.length)).1 (made (ws.length : Int) (tab (2 ^ ws.length) fun s => c + weigh ws s ws.length)).2.1 (made (ws.length : Int) (tab (2 ^ ws.length) fun s => c + weigh ws s ws.length)).2.2) := by
  have HW := Lib.hid (St.start w)
  have hb := fun s => weigh_bd hv s ws.length (Nat.le_refl _)
  obtain ⟨p, hp⟩ : ∃ p, p = 2 ^ ws.length := ⟨_, rfl⟩
  have hp32 : p ≤ 32 := by have h := Nat.pow_le_pow_right (n := 2) (by decide) hm; omega
  have hsh := shl_one (n := (ws.length : Int)) (m := p) (by omega) (by omega) (by rw [Int.toNat_natCast]; exact hp)
  rw [Int.toNat_natCast] at hsh
  rw [← hp]
  have hw' := Lib.hid (fun (W : World) (s : Nat) (hW : Ints W W.heap.size A ws) (hs : s < 4294967296) => weighS_any A ws cap s W (Lib.hid hW) hv hm hs)
  obtain ⟨f, hf⟩ : ∃ f : Nat → Int, f = fun s => c + weigh ws s ws.length := ⟨_, rfl⟩
  have hfs : ∀ s, c + weigh ws s ws.length = f s := fun s => by rw [hf]
  rw [← hf]
  obtain ⟨m, hxm⟩ : ∃ m, ws.length = m := ⟨_, rfl⟩
  rw [hxm] at hm hb hsh hw' hfs ⊢
  obtain ⟨rn, rx, rb, hr⟩ : ∃ rn rx rb, made (m : Int) (tab p f) = (rn, rx, rb) := ⟨_, _, _, rfl⟩
  rw [hr]
  have HR := Lib.hid hr
  have HX := Lib.hid hxm
  have HV := Lib.hid hv
  have HB := Lib.hid hb
  have HFS := Lib.hid hfs
  have hg : ¬ (5 : Int) < (m : Int) := by omega
  clear hv hxm hb hf hp hfs hr
  obtain ⟨i0, hi, hz0, hz1, hz2⟩ := info_parts info_int
  go_enter Tryd.func101, Tryd.ntmps101
  go_wp2_with (go_at_call 92; refine (in_yes c (-1000) 1000 _ c1 c2).mono ?_; rintro e w' ⟨rfl, rfl⟩)
  have hS0 := HW.out.alloc [.int .i64 0, .slice none 0 0] 26
  have HS := Lib.hid hS0
  clear hS0
  go_loop [6] (fun i => ∃ k : Nat, k ≤ m ∧ i = .int .i64 k) (fun i => m - (intOf i).toNat)
  case atStart => exact ⟨0, Nat.zero_le _, rfl⟩
  case round =>
    obtain ⟨k, hk, rfl⟩ := hrel
    by_cases hlt : k < m
    · obtain ⟨b, off, rfl, hbl, hc⟩ := h.out.at_ (k := k) (by rw [HX.out]; omega)
      have d := (HS.out.base.cell (p := ⟨b, off + k, none⟩) hbl).trans hc
      have hk0 : (0 : Int) ≤ (k : Int) := by omega
      have hkn : (k : Int) < (m : Int) := by omega
      obtain ⟨v1, v2⟩ := HV.out k (by rw [HX.out]; exact hlt)
      clear hc
      generalize ws.getD k 0 = x at d v1 v2
      go_wp2_with (go_at_call 92; refine (in_yes x (-1000) 1000 _ v1 v2).mono ?_; rintro e w' ⟨rfl, rfl⟩)
      go_round
      case rel => exact ⟨k + 1, by omega, by go_num⟩
      case measure => simp [intOf]; omega
    · obtain rfl : k = m := by omega
      have hkn : ¬ (k : Int) < (k : Int) := by omega
      go_wp2
      go_loopw [7, 8] (fun v i wr => ∃ (j : Nat) (V : Option Addr) (c : Nat), i = .int .i64 j ∧ j ≤ p ∧ v = .slice V j c ∧ St w wr [il (.slice V j c) j (tab j f), bx w.heap.size 26 [.int .i64 0, .slice none 0 0]]) (fun _ i _ => p - (intOf i).toNat)
      case atStart => exact ⟨0, _, _, rfl, Nat.zero_le _, rfl, by have e := HS.out.empty; rw [World.size_alloc] at e; exact e⟩
      case round =>
        obtain ⟨j, V, cc, rfl, hj, rfl, hS⟩ := hrel
        obtain ⟨b1, f1⟩ := hS.box (i := 1) rfl
        have b10 := b1 0 _ rfl
        have b11 := b1 1 _ rfl
        have f10 := f1 0
        have f11 := f1 1
        have bl1 := (hS.lt (i := 1) rfl).2
        clear b1 f1
        have HS1 := Lib.hid hS
        by_cases hlt2 : j < p
        · have htab := Lib.hid (tab_succ j f)
          have hjn : (j : Int) < (p : Int) := by omega
          have hcall := fun W hW => hw'.out W j hW (by omega)
          obtain ⟨g1, g2⟩ := HB.out j
          have hff := HFS.out j
          generalize weigh ws j k = y at hcall g1 g2 hff
          have hy : IntKind.i64.wrap (c + y) = f j := by rw [← hff]; exact IntWalk.i64_in _ (by omega)
          have HC := Lib.hid hcall
          clear hcall hS hff
          go_wp2_with (first | (go_at_call 93; refine St.use (w0 := w) (by exact HS1.out) ?_; intro hS; refine (HC.out _ ((h.out.below hS.base).mono hS.size)).mono ?_; rintro e w1 ⟨rfl, hq⟩; have HS2 := Lib.hid (show St w w1 _ by obtain ⟨q, rfl⟩ := hq; exact hS.drewN q); clear hS hq) | (at_builtin; refine wpList_app1 rfl (.tmp 41) (.tmp 47) 24 rfl (f j) Tryd.underlying24 hi hz0 hz1 hz2 ((HS2.out.alloc _ _).drop 0) (i := 0) rfl rfl rfl (by simp) (by omega) ?_; intro V' c' w2 hS2; have HS3 := Lib.hid hS2; clear hS2))
          go_roundw
          case rel => exact ⟨j + 1, V', c', by go_num, by omega, rfl, by rw [htab.out]; exact HS3.out⟩
          case measure => simp [intOf]; omega
        · obtain rfl : j = p := by omega
          have hjn : ¬ (j : Int) < (j : Int) := by omega
          obtain ⟨B, d, hcall, hend⟩ := made_any (k : Int) V (tab j f) j cc wr (tab_length _ _) (hS.ints (i := 0) rfl)
          rw [HR.out] at hcall hend
          have HC := Lib.hid hcall
          have HE := Lib.hid hend
          clear hcall hend hS
          go_wp2_with (go_at_call 78; refine HC.out.mono ?_; rintro e w2 ⟨rfl, hb⟩; have hS2 := HS1.out.below hb; obtain ⟨p1, q1⟩ := hS2.box (i := 1) rfl; have p10 := p1 0 _ rfl; have p11 := p1 1 _ rfl; have q10 := q1 0; have q11 := q1 1; have pl := (hS2.lt (i := 1) rfl).2; clear p1 q1 hb b10 b11 f10 f11; have HS2 := Lib.hid hS2; clear hS2)
          have hS3 := ((HS2.out.store (i := 1) rfl 0 (.int .i64 rn)).store (i := 1) rfl 1 (.slice B rx.length d)).alloc [.int .i64 rn, .slice B rx.length d] 26
          exact bodyPost_ret (v := .tuple #[.agg #[.int .i64 rn, .slice B rx.length d], .bool rb]) (by simp [results, Tryd.results101, go_sem, p10, p11, q10, q11, pl]) rfl ⟨B, d, rfl, ends_own hS3 (i := 1) rfl HE.out, hS3.base⟩
/-- The first weight that is none. -/
theorem weight_bad {ws : List Int} (h : ¬ ∀ k, k < ws.length → -1000 ≤ ws.getD k 0 ∧ ws.getD k 0 ≤ 1000) : ∃ j, j < ws.length ∧ (ws.getD j 0 < -1000 ∨ 1000 < ws.getD j 0) ∧ ∀ k, k < j → -1000 ≤ ws.getD k 0 ∧ ws.getD k 0 ≤ 1000 := by
  have key : ∀ c, (∀ k, k < c → -1000 ≤ ws.getD k 0 ∧ ws.getD k 0 ≤ 1000) ∨ ∃ j, j < c ∧ (ws.getD j 0 < -1000 ∨ 1000 < ws.getD j 0) ∧ ∀ k, k < j → -1000 ≤ ws.getD k 0 ∧ ws.getD k 0 ≤ 1000 := by
    intro c
    induction c with
    | zero => exact .inl fun k hk => absurd hk (by omega)
    | succ c ih =>
      rcases ih with h1 | ⟨j, hj, hb, hv⟩
      · by_cases hc : -1000 ≤ ws.getD c 0 ∧ ws.getD c 0 ≤ 1000
        · exact .inl fun k hk => by
            by_cases e : k = c
            · subst e; exact hc
            · exact h1 k (by omega)
        · exact .inr ⟨c, by omega, by omega, h1⟩
      · exact .inr ⟨j, by omega, hb, hv⟩
  rcases key ws.length with h1 | h1
  · exact absurd h1 h
  · exact h1
theorem weights_all {ws : List Int} : (∀ x ∈ ws, -1000 ≤ x ∧ x ≤ 1000) ↔ ∀ k, k < ws.length → -1000 ≤ ws.getD k 0 ∧ ws.getD k 0 ≤ 1000 := by
  constructor
  · intro h k hk
    have e : ws.getD k 0 = ws[k] := by rw [List.getD_eq_getElem?_getD, List.getElem?_eq_getElem hk]; rfl
    rw [e]
    exact h _ (List.getElem_mem hk)
  · intro h x hx
    obtain ⟨k, hk, rfl⟩ := List.mem_iff_getElem.1 hx
    have e : ws.getD k 0 = ws[k] := by rw [List.getD_eq_getElem?_getD, List.getElem?_eq_getElem hk]; rfl
    rw [← e]
    exact h k hk

theorem modfnS_any (A : Option Addr) (ws : List Int) (cap : Nat) (c : Int) (w : World) (h : Hid (Ints w w.heap.size A ws)) (hm2 : ws.length ≤ 1048576) :
    Calls Tryd.prog 101 #[.slice A ws.length cap, .int .i64 c] w (RetFB w (modFn ws c).1 (modFn ws c).2.1 (modFn ws c).2.2) := by
  unfold modFn
  split
  · rename_i hh
    exact modfnS_good A ws cap c w h hh.1 hh.2.1 hh.2.2.1 (weights_all.1 hh.2.2.2)
  · rename_i hh
    by_cases h1 : ws.length ≤ 5
    · by_cases h2 : -1000 ≤ c ∧ c ≤ 1000
      · obtain ⟨j, hj, hb, hv⟩ := weight_bad (ws := ws) fun g => hh ⟨h1, h2.1, h2.2, weights_all.2 g⟩
        exact modfnS_val A ws cap c w h h1 h2.1 h2.2 j hj hb hv
      · exact modfnS_c A _ cap c w h1 (by omega)
    · exact modfnS_len A _ cap c w (by omega) hm2

end Go.Proofs.YtfpoiiennlhphaaDoor.C
