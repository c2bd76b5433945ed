/-
  The contracts of impl.setOf, levelsOf and LevelSets.
-/
import Derived.Test.YtlbefommcahkeaaLnM
import Derived.Test.YtlbefommcahkeaaOrdJ
import Derived.Test.YtlbefommcahkeaaSld
import Derived.Test.YtlbefommcahkeaaVal
import Derived.Deep.QuietTactic
namespace Go.Proofs.Ytlbefommcahkeaa.M
set_option linter.unusedVariables false
/-- How far the level sets of the first k elements of the order reach. -/
def endsTo (ws : List Int) : Nat → List Nat
  | 0 => []
  | k + 1 => if k + 1 = ws.length ∨ ws.getD (ordF ws (k + 1)) 0 < ws.getD (ordF ws k) 0 then endsTo ws k ++ [k + 1] else endsTo ws k
theorem ends_lev (ws : List Int) : ∀ k, levTo ws k = (endsTo ws k).map fun e => (pre (ordF ws) e : Int)
  | 0 => rfl
  | k + 1 => by
    unfold levTo endsTo
    split
    · rw [ends_lev ws k, List.map_append]; rfl
    · exact ends_lev ws k
theorem ends_le (ws : List Int) : ∀ k, ∀ e ∈ endsTo ws k, 1 ≤ e ∧ e ≤ k
  | 0, e, h => by cases h
  | k + 1, e, h => by
    unfold endsTo at h
    split at h
    · rcases List.mem_append.1 h with h | h
      · have := ends_le ws k e h
        omega
      · rw [List.mem_singleton.1 h]
        omega
    · have := ends_le ws k e h
      omega
theorem ends_len (ws : List Int) : ∀ k, (endsTo ws k).length ≤ k
  | 0 => Nat.le_refl _
  | k + 1 => by
    have := ends_len ws k
    unfold endsTo
    split
    · rw [List.length_append]; simp; omega
    · omega

end Go.Proofs.Ytlbefommcahkeaa.M
namespace Go.Proofs.Ytlbefommcahkeaa.K
open Go.RowKit
set_option linter.unusedVariables false
/-- A start of a list, which shares its memory. -/
def lvE (V : Option Addr) (os : List Int) (e : Nat) : Ent := (V, e, os.take e)
theorem Ints.take {w : World} {B : Nat} {A : Option Addr} {xs : List Int} (h : Ints w B A xs) (k : Nat) : Ints w B A (xs.take k) := fun h0 => by
  rw [List.length_take] at h0
  obtain ⟨b, off, h1, h2, h3⟩ := h (by omega)
  refine ⟨b, off, h1, h2, fun j hj => ?_⟩
  rw [List.length_take] at hj
  rw [h3 j (by omega), getD_take (by omega)]
theorem Own.room {w : World} {lo n c : Nat} {A : Option Addr} {xs : List Int} (h : Own w lo (.slice A n c) xs) : n ≤ c := by
  rcases h.2 with ⟨h1, h0⟩ | ⟨g, cap, cur, hv, hg, hh, hn, hm, hs, ht⟩
  · injection h1 with _ h2 h3
    omega
  · injection hv with _ h2 h3
    omega

end Go.Proofs.Ytlbefommcahkeaa.K
namespace Go.Proofs.Ytlbefommcahkeaa.C
open Go.RowKit K M
set_option linter.unusedVariables false
set_option linter.unusedSimpArgs false

set_option maxRecDepth 100000 in
theorem setOfI_any (A : Option Addr) (p : List Int) (cap : Nat) (w : World) (h : Hid (Ints w w.heap.size A p)) (hp : ∀ k, k < p.length → 0 ≤ p.getD k 0 ∧ p.getD k 0 ≤ 4) (hl : p.length ≤ 1048576) :
    Calls Try.prog 34 #[.slice A p.length cap] w fun e w' => e = .returned (.int .i64 (seenTo p p.length : Nat)) ∧ w = w' := by
  have HL := Lib.hid (fun k (hk : k ≤ p.length) => show seenTo p k < 2 ^ 5 from seen_lt (N := 5) k fun i hi => by have := hp i (by omega); omega)
  have HS := Lib.hid (fun k => show seenTo p (k + 1) = seenTo p k ||| 2 ^ (p.getD k 0).toNat from rfl)
  have HP := Lib.hid hp
  have hz : seenTo p 0 = 0 := rfl
  obtain ⟨m, hm⟩ : ∃ m, p.length = m := ⟨_, rfl⟩
  have HX := Lib.hid hm
  rw [hm] at HL HP hl ⊢
  generalize seenTo p = f at *
  clear hp hm
  go_enter Try.func34, Try.ntmps34
  go_wp2
  go_loop [3, 8] (fun s i => ∃ k : Nat, i = .int .i64 k ∧ k ≤ m ∧ s = .int .i64 (f k : Nat)) (fun _ i => m - (intOf i).toNat)
  case atStart => exact ⟨0, rfl, Nat.zero_le _, by rw [hz]; rfl⟩
  case round =>
    obtain ⟨k, rfl, hk, rfl⟩ := hrel
    clear hz
    by_cases hlt : k < m
    · obtain ⟨b, off, rfl, hbl, hc⟩ := h.out.at_ (k := k) (by rw [HX.out]; exact hlt)
      obtain ⟨g1, g2⟩ := HP.out k hlt
      have hs := HS.out k
      have hl := HL.out k hk
      obtain ⟨E, hE⟩ : ∃ E : Nat, p.getD k 0 = (E : Int) := ⟨_, (Int.toNat_of_nonneg g1).symm⟩
      rw [hE] at hc g1 g2 hs
      rw [Int.toNat_natCast] at hs
      have HWI := Lib.hid (fun W => with_any ((f k : Nat) : Int) (E : Int) W (by omega) (by omega) g1 (by omega))
      rw [show withE ((f k : Nat) : Int) (E : Int) = f k ||| 2 ^ E from by unfold withE; rw [Int.toNat_natCast, Int.toNat_natCast]] at HWI
      rw [← hs] at HWI
      generalize hT : f (k + 1) = T at *
      have HT := Lib.hid hT
      generalize f k = S at *
      have hk0 : (0 : Int) ≤ (k : Int) := by omega
      have hkm : (k : Int) < (m : Int) := by omega
      clear hs hl hE hT
      go_wp2_with (go_at_call 44; refine (HWI.out _).mono ?_; rintro e w' ⟨rfl, rfl⟩)
      go_round
      case rel => exact ⟨k + 1, by go_num, by omega, by rw [HT.out]⟩
      case measure => simp [intOf]; omega
    · obtain rfl : k = m := by omega
      have hkm : ¬ (k : Int) < (k : Int) := by omega
      go_wp2
      go_ret
      exact ⟨rfl, rfl⟩

set_option maxRecDepth 100000 in
set_option maxHeartbeats 4000000 in
/-- The starts of an order that are level sets: slices of its memory. -/
theorem levelsI_any (D : Option Addr) (ws : List Int) (dap : Nat) (V : Option Addr) (c : Nat) (w : World) (g : Hid (Ints w w.heap.size D ws)) (h : Hid (Ints w w.heap.size V (nats (ordN ws ws.length)))) (hm5 : ws.length ≤ 5) (hc : ws.length ≤ c) :
    Calls Try.prog 33 #[.slice D ws.length dap, .slice V ws.length c] w fun e w' => ∃ (G : Option Addr) (cc : Nat) (es : List Ent), e = .returned (.slice G es.length cc) ∧ es = (endsTo ws ws.length).map (lvE V (nats (ordN ws ws.length))) ∧ St w w' [ol (.slice G es.length cc) es] := by
  have HW := Lib.hid (St.start w)
  have hpm := ordF_pm ws
  have hol := order_len ws
  have HOA := Lib.hid (fun i (hi : i < ws.length) => order_at ws hi)
  have HLT := Lib.hid hpm.lt
  have HEN := Lib.hid (fun k => show endsTo ws (k + 1) = if k + 1 = ws.length ∨ ws.getD (ordF ws (k + 1)) 0 < ws.getD (ordF ws k) 0 then endsTo ws k ++ [k + 1] else endsTo ws k from rfl)
  have HEL := Lib.hid (ends_len ws)
  have h0 : endsTo ws 0 = [] := rfl
  generalize nats (ordN ws ws.length) = os at *
  generalize ordF ws = o at *
  generalize endsTo ws = F at *
  obtain ⟨m, hm⟩ : ∃ m, ws.length = m := ⟨_, rfl⟩
  rw [hm] at hm5 hol HOA HLT HEN hc ⊢
  have HX := Lib.hid hm
  have HL := Lib.hid hol
  have H0 := Lib.hid h0
  clear hm hol hpm h0
  obtain ⟨j0, hj, hy0, hy1, hy2⟩ := info_parts info_ints
  have HS0 := Lib.hid HW.out.nilL
  go_enter Try.func33, Try.ntmps33
  go_wp2
  go_loopw [5, 11] (fun v i wr => ∃ (k l : Nat) (G : Option Addr) (d : Nat) (es : List Ent), i = .int .i64 k ∧ k ≤ m ∧ es.length = l ∧ v = .slice G l d ∧ Hid (es = (F k).map (lvE V os)) ∧ St w wr [ol (.slice G l d) es]) (fun _ i _ => m - (intOf i).toNat)
  case atStart => exact ⟨0, 0, none, 0, [], rfl, Nat.zero_le _, rfl, rfl, Lib.hid (by rw [H0.out]; rfl), HS0.out⟩
  case round =>
    obtain ⟨k, l, G, d, es, rfl, hk, hl, rfl, HES, hS⟩ := hrel
    have HR := Lib.hid hS
    have HLE := Lib.hid hl
    have hl5 : l ≤ 1048576 := by
      have h1 := congrArg List.length HES.out
      have h2 := HEL.out k
      rw [List.length_map] at h1
      omega
    clear hS hl HS0
    by_cases hlt : k < m
    · obtain ⟨b, off, rfl, hbl, hco0⟩ := (h.out.below HR.out.base).at_ (k := k) (by rw [HL.out]; exact hlt)
      have hco := hco0
      rw [HOA.out k hlt] at hco
      have hE := HLT.out k hlt
      have hen := HEN.out k
      obtain ⟨E, hEE⟩ : ∃ E, o k = E := ⟨_, rfl⟩
      rw [hEE] at hco hE hen
      obtain ⟨r, ro, rfl, hrl, hcx⟩ := (g.out.below HR.out.base).at_ (k := E) (by rw [HX.out]; exact hE)
      have g1 : (0 : Int) ≤ (k : Int) := by omega
      have g2 : (k : Int) < (m : Int) := by omega
      have g3 : (0 : Int) ≤ (E : Int) := by omega
      have g4 : (E : Int) < (m : Int) := by omega
      have g5 : (0 : Int) ≤ (k : Int) + 1 := by omega
      have g6 : ((k : Int) + 1).toNat = k + 1 := by omega
      have g7 : (k : Int) + 1 ≤ (c : Int) := by omega
      have htk : (os.take (k + 1)).length = k + 1 := by rw [List.length_take, HL.out]; omega
      have HTK := Lib.hid htk
      clear hEE hco0 htk
      by_cases hend : k + 1 = m
      · have hbe : (((k : Int) + 1) == (m : Int)) = true := beq_iff_eq.2 (by omega)
        rw [if_pos (.inl hend)] at hen
        have HENJ := Lib.hid hen
        clear hen hend
        go_wp2
        go_quiet (fail)
        have HY := Lib.hid (HR.out.drewN nq)
        generalize wr.drewN nq = w9 at HY ⊢
        go_wp2_with (at_builtin; have hS := HY.out; refine wpList_appL1 rfl (.tmp 36) (.tmp 41) 44 rfl (lvE (some ⟨b, off, none⟩) os (k + 1)) Try.underlying44 hj hy0 hy1 hy2 ((hS.alloc _ _).drop 0) (i := 0) (by rw [HLE.out]; rfl) rfl rfl HLE.out (by show _ = some (Value.slice (some ⟨b, off, none⟩) (os.take (k + 1)).length (k + 1)); rw [HTK.out]; exact ((hS.alloc _ _).box (i := 0) rfl).1 0 _ rfl) hl5 ?_; intro g8 c8 w8 hS8; have HS8 := Lib.hid hS8; clear hS hS8)
        go_roundw
        case rel => exact ⟨k + 1, l + 1, some ⟨g8, 0, none⟩, c8, es ++ [lvE (some ⟨b, off, none⟩) os (k + 1)], by go_num, by omega, by rw [List.length_append, HLE.out]; rfl, by rw [HLE.out], Lib.hid (by rw [HES.out, HENJ.out, List.map_append]; rfl), by have h9 := HS8.out; rw [List.length_append, HLE.out] at h9; exact h9⟩
        case measure => simp [intOf]; omega
      · have hbe : (((k : Int) + 1) == (m : Int)) = false := beq_eq_false_iff_ne.2 (by omega)
        have hj1 : k + 1 < m := by omega
        obtain ⟨b', off', e', -, hco2⟩ := (h.out.below HR.out.base).at_ (k := k + 1) (by rw [HL.out]; exact hj1)
        obtain ⟨rfl, rfl⟩ : b = b' ∧ off = off' := by cases e'; exact ⟨rfl, rfl⟩
        rw [HOA.out (k + 1) hj1] at hco2
        have hE2 := HLT.out (k + 1) hj1
        obtain ⟨E2, hEE2⟩ : ∃ E2, o (k + 1) = E2 := ⟨_, rfl⟩
        rw [hEE2] at hco2 hE2 hen
        obtain ⟨r', ro', e'', -, hcx2⟩ := (g.out.below HR.out.base).at_ (k := E2) (by rw [HX.out]; exact hE2)
        obtain ⟨rfl, rfl⟩ : r = r' ∧ ro = ro' := by cases e''; exact ⟨rfl, rfl⟩
        generalize ws.getD E 0 = x at *
        generalize ws.getD E2 0 = y at *
        have g8 : (k : Int) + 1 < (m : Int) := by omega
        have g9 : (0 : Int) ≤ (E2 : Int) := by omega
        have g10 : (E2 : Int) < (m : Int) := by omega
        clear e' e'' hEE2
        by_cases hyx : y < x
        · rw [if_pos (.inr hyx)] at hen
          have HENJ := Lib.hid hen
          clear hen hend
          go_wp2
          go_quiet (fail)
          have HY := Lib.hid (HR.out.drewN nq)
          generalize wr.drewN nq = w9 at HY ⊢
          go_wp2_with (at_builtin; have hS := HY.out; refine wpList_appL1 rfl (.tmp 36) (.tmp 41) 44 rfl (lvE (some ⟨b, off, none⟩) os (k + 1)) Try.underlying44 hj hy0 hy1 hy2 ((hS.alloc _ _).drop 0) (i := 0) (by rw [HLE.out]; rfl) rfl rfl HLE.out (by show _ = some (Value.slice (some ⟨b, off, none⟩) (os.take (k + 1)).length (k + 1)); rw [HTK.out]; exact ((hS.alloc _ _).box (i := 0) rfl).1 0 _ rfl) hl5 ?_; intro g8 c8 w8 hS8; have HS8 := Lib.hid hS8; clear hS hS8)
          go_roundw
          case rel => exact ⟨k + 1, l + 1, some ⟨g8, 0, none⟩, c8, es ++ [lvE (some ⟨b, off, none⟩) os (k + 1)], by go_num, by omega, by rw [List.length_append, HLE.out]; rfl, by rw [HLE.out], Lib.hid (by rw [HES.out, HENJ.out, List.map_append]; rfl), by have h9 := HS8.out; rw [List.length_append, HLE.out] at h9; exact h9⟩
          case measure => simp [intOf]; omega
        · rw [if_neg (fun hh => hh.elim hend hyx)] at hen
          have HENJ := Lib.hid hen
          clear hen hend
          go_wp2
          go_quiet (fail)
          go_wp2
          go_roundw
          case rel => exact ⟨k + 1, l, G, d, es, by go_num, by omega, HLE.out, rfl, Lib.hid (by rw [HES.out, HENJ.out]), HR.out.drewN _⟩
          case measure => simp [intOf]; omega
    · obtain rfl : k = m := by omega
      have hjn : ¬ (k : Int) < (k : Int) := by omega
      go_wp2
      go_ret
      exact ⟨G, d, es, by rw [HLE.out]; rfl, HES.out, by rw [HLE.out]; exact HR.out⟩


section

variable (D : Option Addr) (ws : List Int) (dap : Nat) (w : World) (g : Hid (Ints w w.heap.size D ws)) (hl : ws.length ≤ 1048576)
include g hl
theorem levI_no (hf : isVec ws = false) : Calls Try.prog 22 #[.slice D ws.length dap] w (RetIB w [] false) := by
  have HW := Lib.hid (St.start w)
  have HO := Lib.hid (fun W h1 => ordI_any D ws dap W (Lib.hid h1) hl)
  have e : orderFor ws = ([], false) := by unfold orderFor; rw [hf]; rfl
  rw [e] at HO
  clear e hf
  go_enter Try.func22, Try.ntmps22
  go_wp2_with (go_at_call 28; refine (HO.out _ ((g.out.below HW.out.base).mono HW.out.size)).mono ?_; rintro e w2 ⟨V, c, rfl, ho, hb⟩; have HS := Lib.hid (HW.out.newI hb ho); clear ho hb)
  exact bodyPost_ret (v := .tuple #[.slice none 0 0, .bool false]) (by simp [results, Try.results22, go_sem]) rfl ⟨none, 0, rfl, K.Own.nil _ _, HS.out.base⟩

set_option maxRecDepth 100000 in
set_option maxHeartbeats 4000000 in
theorem levI_yes (hf : isVec ws = true) : Calls Try.prog 22 #[.slice D ws.length dap] w (RetIB w (levTo ws ws.length) true) := by
  have HW := Lib.hid (St.start w)
  have HO := Lib.hid (fun W h1 => ordI_any D ws dap W (Lib.hid h1) hl)
  have e : orderFor ws = (nats (ordN ws ws.length), true) := by unfold orderFor; rw [hf]; rfl
  rw [e] at HO
  have hm5 := (isVec_yes hf).1
  have hpm := ordF_pm ws
  have hol := order_len ws
  have HLV := Lib.hid (fun W V c (h1 : Ints W W.heap.size D ws) (h2 : Ints W W.heap.size V (nats (ordN ws ws.length))) (hc : ws.length ≤ c) => levelsI_any D ws dap V c W (Lib.hid h1) (Lib.hid h2) hm5 hc)
  have HOB := Lib.hid (fun i (hi : i < ws.length) => show 0 ≤ (nats (ordN ws ws.length)).getD i 0 ∧ (nats (ordN ws ws.length)).getD i 0 ≤ 4 by rw [order_at ws hi]; have := hpm.lt i hi; omega)
  have HSE := Lib.hid (fun e (he : e ≤ ws.length) => show seenTo ((nats (ordN ws ws.length)).take e) e = pre (ordF ws) e from seen_pre e fun i hi => by rw [getD_take hi, order_at ws (by omega)])
  have HEN := Lib.hid (fun e he => (ends_le ws ws.length e he).2)
  have hll := ends_len ws ws.length
  rw [ends_lev]
  generalize nats (ordN ws ws.length) = os at *
  generalize endsTo ws ws.length = F at *
  generalize pre (ordF ws) = P at *
  obtain ⟨m, hm⟩ : ∃ m, ws.length = m := ⟨_, rfl⟩
  rw [hm] at HO hm5 hol HLV HOB HSE HEN hll ⊢
  have HL := Lib.hid hol
  clear e hf hm hol hl hpm
  obtain ⟨i0, hi, hz0, hz1, hz2⟩ := info_parts info_int
  go_enter Try.func22, Try.ntmps22
  go_wp2_with (first
    | (go_at_call 28; refine (HO.out _ ((g.out.below HW.out.base).mono HW.out.size)).mono ?_; rintro e w2 ⟨V, c, rfl, ho, hb⟩; rw [HL.out] at ho ⊢; have HRM := Lib.hid ho.room; have hS := HW.out.newI hb ho; rw [HL.out] at hS; have HS := Lib.hid hS; clear ho hb hS)
    | (go_at_call 33; refine (HLV.out _ _ _ ((g.out.below HS.out.base).mono HS.out.size) (HS.out.ints (i := 0) rfl) HRM.out).mono ?_; rintro e w3 ⟨G, cc, es, rfl, hes, hS3⟩; have HES := Lib.hid hes; have HS3 := Lib.hid (HS.out.join hS3).nil; clear hes hS3))
  have hel : es.length = F.length := by rw [HES.out, List.length_map]
  obtain ⟨l, hl2⟩ : ∃ l, es.length = l := ⟨_, rfl⟩
  have HLE := Lib.hid hl2
  have hl5 : l ≤ 5 := by omega
  rw [hl2] at HS3 ⊢
  have HFL := Lib.hid (show F.length = l by omega)
  clear hel hl2 hll
  go_loopw [6, 20] (fun v i wr => ∃ (k : Nat) (U : Option Addr) (d : Nat), i = .int .i64 k ∧ k ≤ l ∧ v = .slice U k d ∧ St w wr [il (.slice U k d) k ((F.take k).map fun e => (P e : Int)), ol (.slice G l cc) es, il (.slice V m c) m os]) (fun _ i _ => l - (intOf i).toNat)
  case atStart => exact ⟨0, none, 0, rfl, Nat.zero_le _, rfl, HS3.out⟩
  case round =>
    obtain ⟨k, U, d, rfl, hk, rfl, hS⟩ := hrel
    have HR := Lib.hid hS
    clear hS HS3
    by_cases hlt : k < l
    · have hkF : k < F.length := by rw [HFL.out]; exact hlt
      obtain ⟨E, hE⟩ : ∃ E, F[k]? = some E := ⟨F[k], by simp [hkF]⟩
      have hEm := HEN.out E (List.mem_of_getElem? hE)
      have hek : es[k]? = some (lvE V os E) := by rw [HES.out, List.getElem?_map, hE]; rfl
      obtain ⟨gg, rfl⟩ : ∃ gg, G = some ⟨gg, 0, none⟩ := HR.out.ol_at (c := cc) (i := 1) (by rw [HLE.out]; rfl) (k := k) (by rw [HLE.out]; exact hlt)
      have htk : (os.take E).length = E := by rw [List.length_take, HL.out]; omega
      have d0 : wr.cell? ⟨gg, k, none⟩ = some (.slice V E E) := by
        have h1 := HR.out.cellL (c := cc) (i := 1) (by rw [HLE.out]; rfl) hek
        rw [h1]
        show some (Value.slice V (os.take E).length E) = _
        rw [htk]
      have HIN := Lib.hid (show Ints wr wr.heap.size V (os.take E) from (HR.out.ints (i := 2) rfl).take E)
      have HSO := Lib.hid (setOfI_any V (os.take E) E wr HIN (fun j hj => by rw [htk] at hj; rw [getD_take hj]; exact HOB.out j (by omega)) (by rw [htk]; omega))
      rw [htk, HSE.out E hEm] at HSO
      have HNX := Lib.hid (show ((F.take (k + 1)).map fun e => (P e : Int)) = ((F.take k).map fun e => (P e : Int)) ++ [(P E : Int)] by
        have h1 := List.getElem?_eq_some_iff.1 hE
        rw [List.take_succ_eq_append_getElem h1.1, h1.2, List.map_append]; rfl)
      generalize P E = S at *
      have hk0 : (0 : Int) ≤ (k : Int) := by omega
      have hki : (k : Int) < (l : Int) := by omega
      clear hE hEm hek htk hkF
      go_wp2_with (first
        | (go_at_call 34; refine HSO.out.mono ?_; rintro e w' ⟨rfl, rfl⟩)
        | (at_builtin; have hS := HR.out; refine wpList_app1 rfl (.tmp 24) (.tmp 27) 22 rfl (S : Int) Try.underlying22 hi hz0 hz1 hz2 ((hS.alloc _ _).drop 0) (i := 0) rfl rfl rfl (by simp) (by omega) ?_; intro V' c' w4 hS4; have HR4 := Lib.hid hS4; clear hS hS4))
      go_roundw
      case rel => exact ⟨k + 1, V', c', by go_num, by omega, rfl, by rw [HNX.out]; exact HR4.out⟩
      case measure => simp [intOf]; omega
    · obtain rfl : k = l := by omega
      have hki : ¬ (k : Int) < (k : Int) := by omega
      have hfin : F.take k = F := List.take_of_length_le (by rw [HFL.out]; exact Nat.le_refl _)
      have HY := HR.out
      rw [hfin] at HY
      have hln : (F.map fun e => (P e : Int)).length = k := by rw [List.length_map, HFL.out]
      have HZ := Lib.hid HY
      clear HY hfin
      go_wp2
      exact bodyPost_ret (v := .tuple #[.slice U k d, .bool true]) (by simp [results, Try.results22, go_sem]) rfl ⟨U, d, by rw [hln], by rw [hln]; exact HZ.out.ownI (i := 0) rfl, HZ.out.base⟩

theorem levI_any : Calls Try.prog 22 #[.slice D ws.length dap] w (RetIB w (levels ws).1 (levels ws).2) := by
  unfold levels
  cases hf : isVec ws
  · exact levI_no D ws dap w g hl hf
  · exact levI_yes D ws dap w g hl hf

end


end Go.Proofs.Ytlbefommcahkeaa.C
