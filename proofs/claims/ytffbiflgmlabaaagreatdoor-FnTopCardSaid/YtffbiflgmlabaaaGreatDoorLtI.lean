/-
  The contract of impl.IsLattice: a set kept as a map, and two ranges over it, one in the other.
-/
import Derived.Test.YtffbiflgmlabaaaGreatDoorImA
import Derived.Test.YtffbiflgmlabaaaGreatDoorDuA
import Derived.Test.YtffbiflgmlabaaaGreatDoorVal
import Derived.Test.YtffbiflgmlabaaaGreatDoorMiS
namespace Go.Proofs.YtffbiflgmlabaaaGreatDoor.C
open Go.RowKit K M
set_option linter.unusedVariables false
set_option linter.unusedSimpArgs false
set_option linter.unusedSectionVars false

theorem isSet10 (s : Int) : isSet 10 s = decide (0 ≤ s ∧ s ≤ 1023) := by
  unfold isSet
  rw [show ((2 : Nat) ^ (10 : Int).toNat) = 1024 from by decide, ← Bool.decide_and]
  exact decide_eq_decide.2 ⟨fun ⟨a, b⟩ => ⟨a, by omega⟩, fun ⟨a, b⟩ => ⟨a, by omega⟩⟩


section

variable (A : Option Addr) (xs : List Int) (cap : Nat) (w : World) (h : Hid (Ints w w.heap.size A xs))
include h

theorem latI_len (hl : ¬ xs.length ≤ 64) : Calls Tryz.prog 25 #[.slice A xs.length cap] w (RetV w (.bool false)) := by
  have hg : (64 : Int) < (xs.length : Int) := by omega
  clear hl
  go_enter Tryz.func25, Tryz.ntmps25
  go_wp2
  go_ret
  exact ⟨rfl, Below.refl _ _⟩

set_option maxRecDepth 100000 in
set_option maxHeartbeats 1600000 in
theorem latI_in (hl : xs.length ≤ 64) : Calls Tryz.prog 25 #[.slice A xs.length cap] w (RetV w (.bool (isLat xs))) := by
  have hg : ¬ (64 : Int) < (xs.length : Int) := by omega
  have HW := Lib.hid (St.start w)
  have HM0 := Lib.hid (MapS.made (P := Tryz.prog) (k := 45) w)
  have HLS := Lib.hid (fun j x => show lset xs (j + 1) x = (lset xs j x || decide (x = xs.getD j 0)) from rfl)
  have HL0 := Lib.hid (fun x => show lset xs 0 x = false from rfl)
  have HNR := Lib.hid (fun j (hj : j < xs.length) hh => lat_no_range (l := xs) (j := j) hj hh)
  have HNP := Lib.hid (fun a c => lat_no_pair (l := xs) (a := a) (c := c))
  have HY := Lib.hid (fun left => lat_yes (l := xs) (left := left) hl)
  have HN := Lib.hid (fun hr x => lset_nat (l := xs) (j := xs.length) (x := x) hr)
  generalize lset xs = T at *
  generalize isLat xs = R at *
  obtain ⟨m, hm⟩ : ∃ m, xs.length = m := ⟨_, rfl⟩
  have HX := Lib.hid hm
  rw [hm] at hl hg HNR HNP HY HN ⊢
  clear hm
  have hmm := @run_makeMap Tryz.prog
  go_enter Tryz.func25, Tryz.ntmps25
  go_wp2
  go_loopw [14] (fun i wr => ∃ j : Nat, i = .int .i64 j ∧ j ≤ m ∧ Hid (∀ i, i < j → 0 ≤ xs.getD i 0 ∧ xs.getD i 0 ≤ 1023) ∧ St w wr [] ∧ MapS Tryz.prog 45 wr w.heap.size j (T j)) (fun i _ => m - (intOf i).toNat)
  case atStart => exact ⟨0, rfl, Nat.zero_le _, Lib.hid (fun i hi => absurd hi (by omega)), HW.out.below ((Below.refl _ _).alloc (Nat.le_refl _) _), HM0.out.congr (fun x => (HL0.out x).symm)⟩
  case round =>
    obtain ⟨j, rfl, hj, HR, hS, hM⟩ := hrel
    have HS := Lib.hid hS
    have HM := Lib.hid hM
    clear hS hM
    by_cases hlt : j < m
    · obtain ⟨b, off, rfl, hbl, hc⟩ := h.out.at_ (k := j) (by rw [HX.out]; exact hlt)
      have hc2 := (HS.out.base.cell (p := ⟨b, off + j, none⟩) hbl).trans hc
      have hls := HLS.out j
      have hnr := HNR.out j hlt
      have g1 : (0 : Int) ≤ (j : Int) := by omega
      have g2 : (j : Int) < (m : Int) := by omega
      have HRR := Lib.hid (fun (hx : 0 ≤ xs.getD j 0 ∧ xs.getD j 0 ≤ 1023) i (hi : i < j + 1) => if e : i = j then e ▸ hx else HR.out i (by omega))
      generalize xs.getD j 0 = x at *
      clear hc hbl
      by_cases hx : 0 ≤ x ∧ x ≤ 1023
      · have HI := Lib.hid (fun W => isOf_yes x 10 W (by omega) (by omega) (by rw [isSet10]; exact decide_eq_true hx))
        have hLL := HRR.out hx
        have HLL := Lib.hid hLL
        have HLS2 := Lib.hid (fun z => (hls z).symm)
        clear hnr hls hLL
        go_wp2_with (first
          | (go_at_call 51; refine (HI.out _).mono ?_; rintro e w2 ⟨rfl, rfl⟩)
          | (at_mapUpdate; refine wpList_putS _ rfl _ _ _ rfl Tryz.underlying45 Tryz.underlying56 HM.out (by omega) x (by omega) rfl rfl rfl ?_; intro w2 hM2 hg2; have HS2 := Lib.hid (HS.out.stored HM.out hg2 (Nat.le_refl _)); have HM2 := Lib.hid (hM2.congr HLS2.out); clear hM2 hg2))
        go_roundw
        case rel => exact ⟨j + 1, by go_num, by omega, HLL, HS2.out, HM2.out⟩
        case measure => simp [intOf]; omega
      · have HI := Lib.hid (fun W => isOf_no x 10 W (by omega) (by omega) (by rw [isSet10]; exact decide_eq_false hx))
        have hRf := hnr hx
        subst hRf
        clear hls
        go_wp2_with (go_at_call 51; refine (HI.out _).mono ?_; rintro e w2 ⟨rfl, rfl⟩)
        go_ret
        exact ⟨rfl, HS.out.base⟩
    · obtain rfl : j = m := by omega
      have hjn : ¬ (j : Int) < (j : Int) := by omega
      have HN2 := Lib.hid (fun x => HN.out HR.out x)
      have HY2 := Lib.hid (fun left => HY.out left HR.out)
      generalize T j = U at *
      clear hlt hj
      go_wp2_with (at_range; refine wpList_rangeS _ rfl _ rfl Tryz.underlying45 Tryz.underlying56 HM.out rfl ?_; intro w5 cnt hcn hR5 hg5 hs5; have HS5 := Lib.hid (HS.out.below (below_of_grown hg5)); have HR5 := Lib.hid hR5; clear hcn hR5 hg5 hs5)
      have hr0 : w.heap.size ≤ wr.heap.size := HS.out.size
      obtain ⟨r, hr⟩ : ∃ r, wr.heap.size = r := ⟨_, rfl⟩
      rw [hr] at HR5 hr0 ⊢
      clear hr
      try go_frame
      go_loopw [6] (fun _ wr => ∃ (left : Int → Bool) (cnt : Nat), Hid (Closed U left) ∧ St w wr [] ∧ RngS Tryz.prog 45 wr w.heap.size r j U left cnt) (fun _ wr => wr.rangeLeft w.heap.size r)
      case atStart => exact ⟨U, cnt, Lib.hid (closed_start U), HS5.out, HR5.out⟩
      case round =>
        obtain ⟨left, cnt1, HC, hS, hR⟩ := hrel
        have HSo := Lib.hid hS
        have HRo := Lib.hid hR
        clear hS hR
        go_wp2_with (at_next; refine wpList_nextS _ rfl _ rfl Tryz.underlying45 rfl HRo.out ?_ ?_)
        · intro hl0
          have hRt := HY2.out left HC.out hl0
          subst hRt
          clear hl0
          go_wp2
          go_ret
          exact ⟨rfl, HSo.out.base⟩
        · intro x w6 cnt2 hlx hTx hR6 hlt6 hg6 hs6 hen
          obtain ⟨a, rfl, ha⟩ := HN2.out x hTx
          have HTA := Lib.hid hTx
          have HS6 := Lib.hid (HSo.out.stepped HRo.out hg6 hr0)
          have HR6 := Lib.hid hR6
          clear hlx hTx hR6 hg6 hs6
          go_wp2_with (at_range; refine wpList_rangeS _ rfl _ rfl Tryz.underlying45 Tryz.underlying56 HR6.out.map rfl ?_; intro w7 cnt7 hcn7 hR7 hg7 hs7; have HS7 := Lib.hid (HS6.out.below (below_of_grown hg7)); have HR7 := Lib.hid hR7; have HO7 := Lib.hid (HR6.out.below (below_of_grown hg7)); clear hcn7 hR7 hg7 hs7)
          have hr1 : r < w6.heap.size := HR6.out.lt
          have hr2 : w.heap.size ≤ w6.heap.size := HS6.out.size
          obtain ⟨r2, hrr⟩ : ∃ r2, w6.heap.size = r2 := ⟨_, rfl⟩
          rw [hrr] at HR7 hr1 hr2 ⊢
          obtain ⟨left1, hl1⟩ : ∃ left1 : Int → Bool, left1 = fun z => left z && !decide (z = (a : Int)) := ⟨_, rfl⟩
          rw [← hl1] at HO7 HR6
          have HL1 := Lib.hid hl1
          clear hrr hl1 hen
          try go_frame
          go_loopw [7] (fun _ wi => ∃ (left2 : Int → Bool) (cnt : Nat), Hid (Closed1 U left2 a) ∧ St w wi [] ∧ RngS Tryz.prog 45 wi w.heap.size r2 j U left2 cnt ∧ RngS Tryz.prog 45 wi w.heap.size r j U left1 cnt2) (fun _ wi => wi.rangeLeft w.heap.size r2)
          case atStart => exact ⟨U, cnt7, Lib.hid (closed1_start U a), HS7.out, HR7.out, HO7.out⟩
          case round =>
            obtain ⟨left2, cnt8, HC2, hS, hR, hO⟩ := hrel
            have HSi := Lib.hid hS
            have HRi := Lib.hid hR
            have HOi := Lib.hid hO
            clear hS hR hO
            go_wp2_with (at_next; refine wpList_nextS _ rfl _ rfl Tryz.underlying45 rfl HRi.out ?_ ?_)
            · intro hl0
              have HC3 := Lib.hid (closed_step HC.out HC2.out hl0)
              rw [← HL1.out] at HC3
              clear hl0
              go_wp2
              go_roundw
              case rel => exact ⟨left1, cnt2, HC3, HSi.out, HOi.out⟩
              case measure => rw [HOi.out.left_eq, HRo.out.left_eq]; omega
            · intro y w8 cnt9 hly hTy hR8 hlt8 hg8 hs8 hen
              obtain ⟨c, rfl, hc⟩ := HN2.out y hTy
              have HTC := Lib.hid hTy
              have HS8 := Lib.hid (HSi.out.stepped HRi.out hg8 hr2)
              have HO8 := Lib.hid (HOi.out.kept hg8 (fun e => HRi.out.ne (Option.some.inj e).symm) (fun e => by have := Option.some.inj e; omega))
              have HR8 := Lib.hid hR8
              have hor := or_nat10 a c (by omega) (by omega)
              have hand := and_nat10 a c (by omega) (by omega)
              have hx1 : a ||| c < 1024 := Nat.or_lt_two_pow (n := 10) (by omega) (by omega)
              have hx2 : a &&& c < 1024 := Nat.lt_of_le_of_lt Nat.and_le_left (by omega)
              have hk1 := HR8.out.map.look Tryz.underlying45 Tryz.underlying56 (Tryz.zeroValue4 _) (y := ((a ||| c : Nat) : Int)) (by omega)
              have hk2 := HR8.out.map.look Tryz.underlying45 Tryz.underlying56 (Tryz.zeroValue4 _) (y := ((a &&& c : Nat) : Int)) (by omega)
              have HST := Lib.hid (fun h1 h2 => closed1_step (T := U) (left := left2) (a := a) (c := c) HC2.out h1 h2)
              have HNO := Lib.hid (fun hh => HNP.out a c HTA.out HTC.out hh)
              clear hly hTy hR8 hg8 hs8
              generalize a ||| c = o at *
              generalize a &&& c = d at *
              cases e1 : U (o : Int)
              · have hRf := HNO.out (.inl e1)
                rw [e1] at hk1
                subst hRf
                clear e1 hk2
                go_wp2
                go_ret
                exact ⟨rfl, HS8.out.base⟩
              · rw [e1] at hk1
                cases e2 : U (d : Int)
                · have hRf := HNO.out (.inr e2)
                  rw [e2] at hk2
                  subst hRf
                  clear e1 e2
                  go_wp2
                  go_ret
                  exact ⟨rfl, HS8.out.base⟩
                · rw [e2] at hk2
                  have HST2 := Lib.hid (HST.out e1 e2)
                  clear e1 e2
                  go_wp2
                  go_roundw
                  case rel => exact ⟨_, cnt9, HST2, HS8.out, HR8.out, HO8.out⟩
                  case measure => rw [HR8.out.left_eq, HRi.out.left_eq]; omega

theorem latI_any : Calls Tryz.prog 25 #[.slice A xs.length cap] w (RetV w (.bool (isLat xs))) := by
  by_cases hl : xs.length ≤ 64
  · exact latI_in A xs cap w h hl
  · have e : isLat xs = false := by unfold isLat; rw [decide_eq_false hl]; rfl
    rw [e]
    exact latI_len A xs cap w h hl

end


end Go.Proofs.YtffbiflgmlabaaaGreatDoor.C
