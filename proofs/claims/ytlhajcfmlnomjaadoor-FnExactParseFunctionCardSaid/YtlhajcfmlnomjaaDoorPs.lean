/-
  The contract of spec.ParseFunction.
-/
import Derived.Test.YtlhajcfmlnomjaaDoorPsM
import Derived.Test.YtlhajcfmlnomjaaDoorFunS
import Derived.Test.YtlhajcfmlnomjaaDoorParI
namespace Go.Proofs.YtlhajcfmlnomjaaDoor.C
open Go.RowKit K M
set_option linter.unusedVariables false
set_option linter.unusedSimpArgs false

/-- What is still to be cut at place j. -/
def restC (l : List UInt8) (j : Nat) (acc : List UInt8) : List (List UInt8) := if j ≤ l.length then cutC acc (l.drop j) else []
theorem restC_char {l : List UInt8} {j : Nat} {acc : List UInt8} (h : j < l.length) (hc : ¬ l[j] = 44) : restC l j acc = restC l (j + 1) (acc ++ [l[j]]) := by
  unfold restC
  rw [if_pos (by omega), if_pos (by omega), List.drop_eq_getElem_cons h, cutC, if_neg hc]
theorem restC_comma {l : List UInt8} {j : Nat} {acc : List UInt8} (h : j < l.length) (hc : l[j] = 44) : restC l j acc = acc :: restC l (j + 1) [] := by
  unfold restC
  rw [if_pos (by omega), if_pos (by omega), List.drop_eq_getElem_cons h, cutC, if_pos hc]
theorem restC_end {l : List UInt8} {acc : List UInt8} : restC l l.length acc = acc :: restC l (l.length + 1) [] := by
  unfold restC
  rw [if_pos (Nat.le_refl _), if_neg (by omega), List.drop_length]
  rfl

/-- What holds of the parts that have been read: each is a number, and they are the first ones. -/
structure Read (l : List UInt8) (D : List (List UInt8)) (R : List (List UInt8)) : Prop where
  eq : D ++ R = parts l
  all : D.all piB = true
theorem Read.step {l : List UInt8} {D R : List (List UInt8)} {acc : List UInt8} (h : Read l D (acc :: R)) (hb : piB acc = true) : Read l (D ++ [acc]) R :=
  ⟨by rw [List.append_assoc, List.singleton_append]; exact h.eq, by rw [List.all_append, h.all]; simp [hb]⟩

theorem no_more {n N : Nat} (h : ∀ M, M < N → n ≠ 2 ^ M) (hN : n ≠ 2 ^ N) : ∀ M, M < N + 1 → n ≠ 2 ^ M := fun M hM => by
  by_cases e : M = N
  · rw [e]; exact hN
  · exact h M (by omega)
theorem spi_acc (acc : List UInt8) (w : World) (h : acc.length ≤ 1048576) :
    Calls Tryd.prog 27 #[.string ⟨acc.toArray⟩] w (RetV w (.tuple #[.int .i64 (piR acc), .bool (piB acc)])) := by
  have := spi_any ⟨acc.toArray⟩ w h
  exact this
theorem one_byte (s : ByteArray) (j : Nat) (h : j < s.size) : (s.extract j (j + 1)).data = #[s[j]] := by
  apply Array.toList_inj.1
  rw [Lib.extract_data]
  have hj : j < s.data.toList.length := h
  rw [show j + 1 - j = 1 by omega, List.drop_eq_getElem_cons hj]
  rfl
theorem str_ext (s : ByteArray) (j : Nat) (acc : List UInt8) (h : j < s.size) : (⟨acc.toArray⟩ : ByteArray) ++ s.extract j (j + 1) = ⟨(acc ++ [s[j]]).toArray⟩ := by
  apply ByteArray.ext
  rw [ByteArray.data_append, one_byte s j h]
  simp

set_option maxRecDepth 100000 in
set_option maxHeartbeats 1600000 in
theorem psS_long (s : ByteArray) (w : World) (hs : 200 < s.size) (hs2 : s.size ≤ 1048576) (rn : Int) (rx : List Int) (rb : Bool) (hr : 0 = rn ∧ [] = rx ∧ false = rb) :
    Calls Tryd.prog 11 #[.string s] w (RetFB w rn rx rb) := by
  have HW := Lib.hid (St.start w)
  have hd : decide ((s.size : Int) ≤ 200) = false := by simp; omega
  have HZ := Lib.hid (show (∀ M : Nat, M ≤ 5 → 0 ≠ 2 ^ M) → 0 = rn ∧ [] = rx ∧ false = rb from fun _ => hr)
  have HY := Lib.hid (show ∀ N : Nat, N ≤ 5 → 0 = 2 ^ N → made (N : Int) [] = (rn, rx, rb) from fun N _ h => absurd h (Nat.ne_of_lt (Nat.two_pow_pos N)))
  clear hr
  go_enter Tryd.func11, Tryd.ntmps11
  go_wp2
  go_loopw [4, 5, 6] (fun v p i wr => i = .int .i64 ((0 : Nat) : Int) ∧ v = .slice (some ⟨w.heap.size + 1, 0, none⟩) 0 0 ∧ St w wr [il (.slice (some ⟨w.heap.size + 1, 0, none⟩) 0 0) 0 [], bx w.heap.size 27 [.int .i64 0, .slice none 0 0]]) (fun _ _ _ _ => 0)
  case atStart => exact ⟨rfl, by simp, by have := (HW.out.alloc [.int .i64 0, .slice none 0 0] 27).empty; simpa only [World.size_alloc] using this⟩
  case round =>
    obtain ⟨rfl, rfl, hS⟩ := hrel
    have HSA := Lib.hid hS
    clear hS
    go_wp2
    go_loopw [9] (fun q wr => ∃ N : Nat, q = .int .i64 N ∧ N ≤ 6 ∧ (∀ M, M < N → 0 ≠ 2 ^ M) ∧ St w wr [il (.slice (some ⟨w.heap.size + 1, 0, none⟩) 0 0) 0 [], bx w.heap.size 27 [.int .i64 0, .slice none 0 0]]) (fun q _ => 6 - (intOf q).toNat)
    case atStart => exact ⟨0, rfl, by omega, fun M h => absurd h (by omega), HSA.out⟩
    case round =>
      obtain ⟨N, rfl, hN, hno, hS⟩ := hrel
      obtain ⟨r1, rf⟩ := hS.box (i := 1) rfl
      have r10 := r1 0 _ rfl
      have r11 := r1 1 _ rfl
      have rf0 := rf 0
      have rf1 := rf 1
      have rl := (hS.lt (i := 1) rfl).2
      have HS := Lib.hid hS
      have HNO := Lib.hid hno
      clear r1 rf hno
      by_cases hN5 : N ≤ 5
      · obtain ⟨p, hpp⟩ : ∃ p, p = 2 ^ N := ⟨_, rfl⟩
        have hsh := shl_one (n := (N : Int)) (m := p) (by omega) (by omega) (by rw [hpp]; rfl)
        simp only [Int.toNat_natCast] at hsh
        have hn5 : (N : Int) ≤ 5 := by omega
        by_cases hnp : 0 = p
        · have hb1 : ((0 : Nat) : Int) = (p : Int) := by rw [hnp]
          have hbt : (((0 : Nat) : Int) == (p : Int)) = true := beq_iff_eq.2 hb1
          have hmade := HY.out N hN5 (by rw [hnp, hpp])
          obtain ⟨B, d, hcall, hend⟩ := made_any (N : Int) (some ⟨w.heap.size + 1, 0, none⟩) [] 0 0 wr (OwnN.len (HS.out.own (i := 0) rfl)) (hS.ints (i := 0) rfl)
          rw [hmade] at hcall hend
          have HC := Lib.hid hcall
          have HE := Lib.hid hend
          clear hcall hend hS hmade hpp hb1 hnp
          go_wp2_with fail
          refine HC.out.mono ?_
          rintro e w2 ⟨rfl, hb⟩
          have hS2 := HS.out.below hb
          obtain ⟨p1, q1⟩ := hS2.box (i := 1) rfl
          have p10 := p1 0 _ rfl
          have p11 := p1 1 _ rfl
          have q10 := q1 0
          have q11 := q1 1
          have pl := (hS2.lt (i := 1) rfl).2
          clear p1 q1 hb r10 r11 rf0 rf1 rl
          have HS2 := Lib.hid hS2
          clear hS2
          go_wp2
          have hS3 := ((HS2.out.store (i := 1) rfl 0 (.int .i64 rn)).store (i := 1) rfl 1 (.slice B rx.length d)).alloc [.int .i64 rn, .slice B rx.length d] 27
          exact bodyPost_ret (v := .tuple #[.agg #[.int .i64 rn, .slice B rx.length d], .bool rb]) (by simp [results, Tryd.results11, go_sem, p10, p11, q10, q11, pl]) rfl ⟨B, d, rfl, ends_own hS3 (i := 1) rfl HE.out, hS3.base⟩
        · have hbf : (((0 : Nat) : Int) == (p : Int)) = false := beq_eq_false_iff_ne.2 (fun e => hnp (by exact_mod_cast e))
          have HP := Lib.hid (show 0 ≠ 2 ^ N by rw [← hpp]; exact hnp)
          clear hnp hpp hS
          go_wp2
          go_roundw
          case rel => exact ⟨N + 1, by go_num, by omega, no_more HNO.out HP.out, HS.out⟩
          case measure => simp [intOf] <;> omega
      · obtain rfl : N = 6 := by omega
        obtain ⟨rfl, rfl, rfl⟩ := HZ.out (fun M h => HNO.out M (by omega))
        clear hS
        go_wp2
        have hZ := (HS.out.store (i := 1) rfl 0 (.int .i64 0)).store (i := 1) rfl 1 (.slice none 0 0)
        exact bodyPost_ret (v := .tuple #[.agg #[.int .i64 0, .slice none 0 0], .bool false]) (by simp [results, Tryd.results11, go_sem, r10, r11, rf0, rf1]) rfl ⟨none, 0, rfl, Own.nil _ _, hZ.base⟩

set_option maxRecDepth 100000 in
set_option maxHeartbeats 6400000 in
theorem psS_main (s : ByteArray) (w : World) (hs : s.size ≤ 200) (rn : Int) (rx : List Int) (rb : Bool) (hr : Hid (parseFn s.data.toList = (rn, rx, rb))) :
    Calls Tryd.prog 11 #[.string s] w (RetFB w rn rx rb) := by
  have HW := Lib.hid (St.start w)
  have hd : (s.size : Int) ≤ 200 := by omega
  obtain ⟨bs, hbs⟩ : ∃ bs, s.data.toList = bs := ⟨_, rfl⟩
  have hsz : bs.length = s.size := by rw [← hbs]; rfl
  rw [hbs] at hr
  have HB := Lib.hid hbs
  have HL := Lib.hid hsz
  clear hbs hsz
  obtain ⟨i0, hi, hz0, hz1, hz2⟩ := info_parts info_int
  go_enter Tryd.func11, Tryd.ntmps11
  go_wp2
  go_loopw [4, 5, 6, 7, 8] (fun v p i _ _ wr => ∃ (j n : Nat) (D : List (List UInt8)) (acc : List UInt8) (V : Option Addr) (c : Nat), i = .int .i64 j ∧ p = .string ⟨acc.toArray⟩ ∧ v = .slice V n c ∧ j ≤ s.size + 1 ∧ n ≤ j ∧ acc.length ≤ j ∧ D.length = n ∧ Read bs D (restC bs j acc) ∧ St w wr [il (.slice V n c) n (D.map piR), bx w.heap.size 27 [.int .i64 0, .slice none 0 0]]) (fun _ _ i _ _ _ => s.size + 1 - (intOf i).toNat)
  case atStart => exact ⟨0, 0, [], [], some ⟨w.heap.size + 1, 0, none⟩, 0, rfl, rfl, by simp, by omega, by omega, by simp, rfl, ⟨by simp [restC, parts], rfl⟩, by have := (HW.out.alloc [.int .i64 0, .slice none 0 0] 27).empty; simpa only [World.size_alloc, List.map_nil] using this⟩
  case round =>
    obtain ⟨j, n, D, acc, V, c, rfl, rfl, rfl, hj, hnj, hacc, hDn, hread, hS⟩ := hrel
    have HS1 := Lib.hid hS
    have HRD := Lib.hid hread
    have HDN := Lib.hid hDn
    clear hS hread hDn
    by_cases hjs : j ≤ s.size
    · have hji : (j : Int) ≤ (s.size : Int) := by omega
      by_cases hjl : j < s.size
      · have hjb : j < bs.length := by rw [HL.out]; exact hjl
        have hbj : s[j] = bs[j] := by have := HB.out; subst this; rfl
        have hjli : (j : Int) < (s.size : Int) := by omega
        have hji1 : (j : Int) + 1 ≤ (s.size : Int) := by omega
        by_cases hch : bs[j] = 44
        · have h44 : ((s[j].toNat : Int) != 44) = false := by rw [hbj, hch]; rfl
          have hrest := restC_comma (acc := acc) hjb hch
          have HRE := Lib.hid hrest
          clear hbj hch hrest hjb
          have hacc2 : acc.length ≤ 1048576 := by omega
          have HSTEP := HRE
          cases hpi : piB acc
          · have hnone := parse_bad (l := bs) (D := D) (R := restC bs (j + 1) []) (acc := acc) (by rw [← HSTEP.out]; exact HRD.out.eq) hpi
            rw [hr.out] at hnone
            obtain ⟨rfl, rfl, rfl⟩ : rn = 0 ∧ rx = [] ∧ rb = false := by simpa using hnone
            have HC := spi_acc acc
            rw [hpi] at HC
            have HC := Lib.hid HC
            clear hpi hnone
            go_wp2_with fail
            refine (HC.out _ hacc2).mono ?_
            rintro e w1 ⟨rfl, hb⟩
            have hS1 := HS1.out.below hb
            obtain ⟨r1, rf⟩ := hS1.box (i := 1) rfl
            have r10 := r1 0 _ rfl
            have r11 := r1 1 _ rfl
            have rf0 := rf 0
            have rf1 := rf 1
            have HS2 := Lib.hid hS1
            clear r1 rf hb hS1
            go_wp2
            have hZ := (HS2.out.store (i := 1) rfl 0 (.int .i64 0)).store (i := 1) rfl 1 (.slice none 0 0)
            exact bodyPost_ret (v := .tuple #[.agg #[.int .i64 0, .slice none 0 0], .bool false]) (by simp [results, Tryd.results11, go_sem, r10, r11, rf0, rf1]) rfl ⟨none, 0, rfl, Own.nil _ _, hZ.base⟩
          · have HC := spi_acc acc
            rw [hpi] at HC
            have HC := Lib.hid HC
            have HPI := Lib.hid hpi
            clear hpi
            generalize hpr : piR acc = x at HC
            have HPR := Lib.hid hpr
            clear hpr
            go_wp2_with fail
            refine (HC.out _ hacc2).mono ?_
            rintro e w1 ⟨rfl, hb⟩
            have HS2 := Lib.hid (HS1.out.below hb)
            clear hb
            go_wp2_with (at_builtin; refine wpList_app1 rfl (.tmp 49) (.tmp 51) 22 rfl x Tryd.underlying22 hi hz0 hz1 hz2 ((HS2.out.alloc _ _).drop 0) (i := 0) rfl rfl rfl (by simp) (by omega) ?_; intro V' c' w2 hS2; have HS3 := Lib.hid hS2; clear hS2)
            go_roundw
            case rel => exact ⟨j + 1, n + 1, D ++ [acc], [], V', c', by go_num, rfl, rfl, by omega, by omega, by simp, by rw [List.length_append, HDN.out]; rfl, Read.step (by rw [← HSTEP.out]; exact HRD.out) HPI.out, by rw [List.map_append, List.map_cons, List.map_nil, HPR.out]; exact HS3.out⟩
            case measure => simp [intOf] <;> omega
        · have h44 : ((s[j].toNat : Int) != 44) = true := by
            rw [hbj]
            refine bne_iff_ne.2 fun e => hch ?_
            have : bs[j].toNat = 44 := by omega
            exact UInt8.toNat_inj.1 this
          have hrest := restC_char (acc := acc) hjb hch
          have HRE := Lib.hid hrest
          have HBJ := Lib.hid hbj
          have HACC := Lib.hid (show acc ++ [bs[j]] = acc ++ [s[j]] by rw [hbj])
          clear hbj hch hrest
          go_wp2
          go_roundw
          case rel => exact ⟨j + 1, n, D, acc ++ [s[j]], V, c, by go_num, by rw [str_ext s j acc hjl], rfl, by omega, by omega, by simp; omega, HDN.out, by rw [← HACC.out, ← HRE.out]; exact HRD.out, HS1.out⟩
          case measure => simp [intOf] <;> omega
      · obtain rfl : j = s.size := by omega
        have hjli : ¬ (s.size : Int) < (s.size : Int) := by omega
        have hrest := restC_end (l := bs) (acc := acc)
        rw [HL.out] at hrest
        have HRE := Lib.hid hrest
        clear hrest
        have hacc2 : acc.length ≤ 1048576 := by omega
        have HSTEP := HRE
        cases hpi : piB acc
        · have hnone := parse_bad (l := bs) (D := D) (R := restC bs (s.size + 1) []) (acc := acc) (by rw [← HSTEP.out]; exact HRD.out.eq) hpi
          rw [hr.out] at hnone
          obtain ⟨rfl, rfl, rfl⟩ : rn = 0 ∧ rx = [] ∧ rb = false := by simpa using hnone
          have HC := spi_acc acc
          rw [hpi] at HC
          have HC := Lib.hid HC
          clear hpi hnone
          go_wp2_with fail
          refine (HC.out _ hacc2).mono ?_
          rintro e w1 ⟨rfl, hb⟩
          have hS1 := HS1.out.below hb
          obtain ⟨r1, rf⟩ := hS1.box (i := 1) rfl
          have r10 := r1 0 _ rfl
          have r11 := r1 1 _ rfl
          have rf0 := rf 0
          have rf1 := rf 1
          have HS2 := Lib.hid hS1
          clear r1 rf hb hS1
          go_wp2
          have hZ := (HS2.out.store (i := 1) rfl 0 (.int .i64 0)).store (i := 1) rfl 1 (.slice none 0 0)
          exact bodyPost_ret (v := .tuple #[.agg #[.int .i64 0, .slice none 0 0], .bool false]) (by simp [results, Tryd.results11, go_sem, r10, r11, rf0, rf1]) rfl ⟨none, 0, rfl, Own.nil _ _, hZ.base⟩
        · have HC := spi_acc acc
          rw [hpi] at HC
          have HC := Lib.hid HC
          have HPI := Lib.hid hpi
          clear hpi
          generalize hpr : piR acc = x at HC
          have HPR := Lib.hid hpr
          clear hpr
          go_wp2_with fail
          refine (HC.out _ hacc2).mono ?_
          rintro e w1 ⟨rfl, hb⟩
          have HS2 := Lib.hid (HS1.out.below hb)
          clear hb
          go_wp2_with (at_builtin; refine wpList_app1 rfl (.tmp 49) (.tmp 51) 22 rfl x Tryd.underlying22 hi hz0 hz1 hz2 ((HS2.out.alloc _ _).drop 0) (i := 0) rfl rfl rfl (by simp) (by omega) ?_; intro V' c' w2 hS2; have HS3 := Lib.hid hS2; clear hS2)
          go_roundw
          case rel => exact ⟨s.size + 1, n + 1, D ++ [acc], [], V', c', by go_num, rfl, rfl, by omega, by omega, by simp, by rw [List.length_append, HDN.out]; rfl, Read.step (by rw [← HSTEP.out]; exact HRD.out) HPI.out, by rw [List.map_append, List.map_cons, List.map_nil, HPR.out]; exact HS3.out⟩
          case measure => simp [intOf] <;> omega
    · obtain rfl : j = s.size + 1 := by omega
      have hji : ¬ ((s.size + 1 : Nat) : Int) ≤ (s.size : Int) := by omega
      have hall : D = parts bs := by
        have := HRD.out.eq
        rw [show restC bs (s.size + 1) acc = [] by unfold restC; rw [if_neg (by rw [HL.out]; omega)], List.append_nil] at this
        exact this
      have hpall : (parts bs).all piB = true := by rw [← hall]; exact HRD.out.all
      have hblen : bs.length ≤ 200 := by rw [HL.out]; exact hs
      have hlen2 : (parts bs).length = n := by rw [← hall]; exact HDN.out
      have HY := Lib.hid (show ∀ N : Nat, N ≤ 5 → n = 2 ^ N → made (N : Int) (D.map piR) = (rn, rx, rb) from fun N _ h => by rw [← hr.out, parse_made hblen hpall (hlen2.trans h), hall])
      have HZ := Lib.hid (show (∀ M : Nat, M ≤ 5 → n ≠ 2 ^ M) → 0 = rn ∧ [] = rx ∧ false = rb from fun h => by
        have := parse_none (l := bs) (fun M hM => by rw [hlen2]; exact h M hM)
        rw [hr.out] at this
        simpa [eq_comm] using this)
      have HSA := HS1
      clear hall hpall hblen hlen2
      go_wp2
      go_loopw [9] (fun q wr => ∃ N : Nat, q = .int .i64 N ∧ N ≤ 6 ∧ (∀ M, M < N → n ≠ 2 ^ M) ∧ St w wr [il (.slice V n c) n (D.map piR), bx w.heap.size 27 [.int .i64 0, .slice none 0 0]]) (fun q _ => 6 - (intOf q).toNat)
      case atStart => exact ⟨0, rfl, by omega, fun M h => absurd h (by omega), HSA.out⟩
      case round =>
        obtain ⟨N, rfl, hN, hno, hS⟩ := hrel
        obtain ⟨r1, rf⟩ := hS.box (i := 1) rfl
        have r10 := r1 0 _ rfl
        have r11 := r1 1 _ rfl
        have rf0 := rf 0
        have rf1 := rf 1
        have rl := (hS.lt (i := 1) rfl).2
        have HS := Lib.hid hS
        have HNO := Lib.hid hno
        clear r1 rf hno
        by_cases hN5 : N ≤ 5
        · obtain ⟨p, hpp⟩ : ∃ p, p = 2 ^ N := ⟨_, rfl⟩
          have hsh := shl_one (n := (N : Int)) (m := p) (by omega) (by omega) (by rw [hpp]; rfl)
          simp only [Int.toNat_natCast] at hsh
          have hn5 : (N : Int) ≤ 5 := by omega
          by_cases hnp : n = p
          · have hb1 : ((n : Nat) : Int) = (p : Int) := by rw [hnp]
            have hbt : (((n : Nat) : Int) == (p : Int)) = true := beq_iff_eq.2 hb1
            have hmade := HY.out N hN5 (by rw [hnp, hpp])
            obtain ⟨B, d, hcall, hend⟩ := made_any (N : Int) V (D.map piR) n c wr (OwnN.len (HS.out.own (i := 0) rfl)) (hS.ints (i := 0) rfl)
            rw [hmade] at hcall hend
            have HC := Lib.hid hcall
            have HE := Lib.hid hend
            clear hcall hend hS hmade hpp hb1 hnp
            go_wp2_with fail
            refine HC.out.mono ?_
            rintro e w2 ⟨rfl, hb⟩
            have hS2 := HS.out.below hb
            obtain ⟨p1, q1⟩ := hS2.box (i := 1) rfl
            have p10 := p1 0 _ rfl
            have p11 := p1 1 _ rfl
            have q10 := q1 0
            have q11 := q1 1
            have pl := (hS2.lt (i := 1) rfl).2
            clear p1 q1 hb r10 r11 rf0 rf1 rl
            have HS2 := Lib.hid hS2
            clear hS2
            go_wp2
            have hS3 := ((HS2.out.store (i := 1) rfl 0 (.int .i64 rn)).store (i := 1) rfl 1 (.slice B rx.length d)).alloc [.int .i64 rn, .slice B rx.length d] 27
            exact bodyPost_ret (v := .tuple #[.agg #[.int .i64 rn, .slice B rx.length d], .bool rb]) (by simp [results, Tryd.results11, go_sem, p10, p11, q10, q11, pl]) rfl ⟨B, d, rfl, ends_own hS3 (i := 1) rfl HE.out, hS3.base⟩
          · have hbf : (((n : Nat) : Int) == (p : Int)) = false := beq_eq_false_iff_ne.2 (fun e => hnp (by exact_mod_cast e))
            have HP := Lib.hid (show n ≠ 2 ^ N by rw [← hpp]; exact hnp)
            clear hnp hpp hS
            go_wp2
            go_roundw
            case rel => exact ⟨N + 1, by go_num, by omega, no_more HNO.out HP.out, HS.out⟩
            case measure => simp [intOf] <;> omega
        · obtain rfl : N = 6 := by omega
          obtain ⟨rfl, rfl, rfl⟩ := HZ.out (fun M h => HNO.out M (by omega))
          clear hS
          go_wp2
          have hZ := (HS.out.store (i := 1) rfl 0 (.int .i64 0)).store (i := 1) rfl 1 (.slice none 0 0)
          exact bodyPost_ret (v := .tuple #[.agg #[.int .i64 0, .slice none 0 0], .bool false]) (by simp [results, Tryd.results11, go_sem, r10, r11, rf0, rf1]) rfl ⟨none, 0, rfl, Own.nil _ _, hZ.base⟩

theorem psS_any (s : ByteArray) (w : World) (hs : s.size ≤ 1048576) : Calls Tryd.prog 11 #[.string s] w (RetFB w (parseFn s.data.toList).1 (parseFn s.data.toList).2.1 (parseFn s.data.toList).2.2) := by
  by_cases h : s.size ≤ 200
  · exact psS_main s w h _ _ _ (Lib.hid rfl)
  · rw [parse_long (by have : s.data.toList.length = s.size := rfl
                       omega)]
    exact psS_long s w (by omega) hs _ _ _ ⟨rfl, rfl, rfl⟩

end Go.Proofs.YtlhajcfmlnomjaaDoor.C
