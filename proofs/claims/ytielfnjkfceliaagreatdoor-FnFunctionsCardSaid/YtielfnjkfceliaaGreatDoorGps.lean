/-
  The parts of a text between commas, and the function of a text, as plain mathematics.
  The contract of spec.ParseFunction.
  The contract of impl.ParseFunction.
  What the law of functions says, as plain mathematics: sums of submodular functions, texts that are read back, gains, lowered functions.
-/
import Derived.Lib.Split
import Derived.Lib.BitFns
import Derived.Test.YtielfnjkfceliaaGreatDoorGpar
import Derived.Test.YtielfnjkfceliaaGreatDoorFnM
import Derived.Test.YtielfnjkfceliaaGreatDoorFunS
import Derived.Test.YtielfnjkfceliaaGreatDoorIsFnI
import Derived.Test.YtielfnjkfceliaaGreatDoorTxtM
import Derived.Test.YtielfnjkfceliaaGreatDoorGsub
namespace Go.Proofs.YtielfnjkfceliaaGreatDoor.M
open Go.Lib (index count splitK)
set_option linter.unusedVariables false

/-- The parts of l, the first one begun by acc. -/
def cutC (acc : List UInt8) : List UInt8 → List (List UInt8)
  | [] => [acc]
  | c :: r => if c = 44 then acc :: cutC [] r else cutC (acc ++ [c]) r
def parts (l : List UInt8) : List (List UInt8) := cutC [] l

theorem cutC_no {l : List UInt8} (acc : List UInt8) (h : (44 : UInt8) ∉ l) : cutC acc l = [acc ++ l] := by
  induction l generalizing acc with
  | nil => simp [cutC]
  | cons c r ih =>
    have hc : ¬ c = 44 := fun e => h (by simp [e])
    rw [cutC, if_neg hc, ih _ (fun e => h (List.mem_cons_of_mem _ e))]
    simp
theorem cutC_at (acc p r : List UInt8) (h : (44 : UInt8) ∉ p) : cutC acc (p ++ 44 :: r) = (acc ++ p) :: cutC [] r := by
  induction p generalizing acc with
  | nil => simp [cutC]
  | cons c p ih =>
    have hc : ¬ c = 44 := fun e => h (by simp [e])
    rw [List.cons_append, cutC, if_neg hc, ih _ (fun e => h (List.mem_cons_of_mem _ e))]
    simp
theorem cutC_len (acc l : List UInt8) : 1 ≤ (cutC acc l).length ∧ (cutC acc l).length ≤ l.length + 1 := by
  induction l generalizing acc with
  | nil => simp [cutC]
  | cons c r ih =>
    rw [cutC]
    split
    · have := ih []; simp only [List.length_cons]; omega
    · have := ih (acc ++ [c]); simp only [List.length_cons]; omega
theorem cutC_each (acc l : List UInt8) : ∀ x ∈ cutC acc l, x.length ≤ acc.length + l.length := by
  induction l generalizing acc with
  | nil => intro x hx; simp [cutC] at hx; subst hx; simp
  | cons c r ih =>
    intro x hx
    rw [cutC] at hx
    split at hx
    · rcases List.mem_cons.1 hx with rfl | hx
      · simp
      · have := ih [] x hx; simp at this ⊢; omega
    · have := ih (acc ++ [c]) x hx; simp at this ⊢; omega
theorem index_no {l : List UInt8} (h : (44 : UInt8) ∉ l) : index l [44] = -1 := by
  induction l with
  | nil => rfl
  | cons c r ih =>
    have hc : ¬ (44 : UInt8) = c := fun e => h (by simp [e])
    have := ih (fun e => h (List.mem_cons_of_mem _ e))
    unfold index
    rw [this]
    simp [List.isPrefixOf, hc]
theorem index_at (p r : List UInt8) (h : (44 : UInt8) ∉ p) : index (p ++ 44 :: r) [44] = (p.length : Int) := by
  induction p with
  | nil => simp [index, List.isPrefixOf]
  | cons c p ih =>
    have hc : ¬ (44 : UInt8) = c := fun e => h (by simp [e])
    have := ih (fun e => h (List.mem_cons_of_mem _ e))
    rw [List.cons_append]
    unfold index
    rw [this]
    have h2 : ¬ ((p.length : Int) = -1) := by omega
    simp [List.isPrefixOf, hc, h2]
/-- strings.Split at a comma. -/
theorem split_parts : ∀ (n : Nat) (l : List UInt8), l.length ≤ n → splitK [44] 0 (count l [44]) l = parts l ∧ count l [44] + 1 = (parts l).length
  | n, l, hn => by
    by_cases hm : (44 : UInt8) ∈ l
    · obtain ⟨p, r, rfl, hp⟩ := List.eq_append_cons_of_mem hm
      have hi := index_at p r hp
      have hd : (p ++ 44 :: r).drop (p.length + 1) = r := by simp
      have hc : count (p ++ 44 :: r) [44] = count r [44] + 1 := by
        rw [Go.Lib.count_hit (by simp) hi]
        simp only [List.length_cons, List.length_nil, Nat.zero_add, hd]
        omega
      have hlt : r.length < n := by simp at hn; omega
      obtain ⟨ih, ih2⟩ := split_parts (n - 1) r (by omega)
      rw [hc, splitK, hi, if_neg (by simp)]
      simp only [Int.toNat_natCast, Nat.add_zero, List.length_cons, List.length_nil, Nat.zero_add, hd, ih]
      unfold parts at ih2 ⊢
      rw [cutC_at [] p r hp]
      refine ⟨by simp, ?_⟩
      rw [List.length_cons, ih2]
    · rw [Go.Lib.count_miss (index_no hm)]
      unfold parts
      rw [cutC_no [] hm]
      exact ⟨rfl, rfl⟩
termination_by n => n

/-- The function of a text: number, values, whether. -/
def parseFn (l : List UInt8) : Int × List Int × Bool :=
  if l.length ≤ 200 ∧ (parts l).all piB = true then made ((Nat.log2 (parts l).length : Nat) : Int) ((parts l).map piR) else (0, [], false)
theorem parseFn_len (l : List UInt8) : (parseFn l).2.1.length ≤ 32 := by
  unfold parseFn; split <;> first | exact made_len _ _ | exact Nat.zero_le _
theorem parse_long {l : List UInt8} (h : 200 < l.length) : parseFn l = (0, [], false) := if_neg (fun hh => by omega)
theorem parse_bad {l : List UInt8} {D R : List (List UInt8)} {acc : List UInt8} (h : D ++ acc :: R = parts l) (hb : piB acc = false) : parseFn l = (0, [], false) := by
  refine if_neg fun hh => ?_
  have := List.all_eq_true.1 hh.2 acc (by rw [← h]; simp)
  rw [hb] at this
  cases this
theorem parse_made {l : List UInt8} (hl : l.length ≤ 200) (ha : (parts l).all piB = true) {n : Nat} (hn : (parts l).length = 2 ^ n) : parseFn l = made (n : Int) ((parts l).map piR) := by
  unfold parseFn
  rw [if_pos ⟨hl, ha⟩, hn, Nat.log2_two_pow]
theorem parse_none {l : List UInt8} (h : ∀ n, n ≤ 5 → (parts l).length ≠ 2 ^ n) : parseFn l = (0, [], false) := by
  unfold parseFn
  split
  · unfold made
    rw [if_neg]
    intro hf
    obtain ⟨h0, h5, hlen, _⟩ := isFn_yes hf
    rw [List.length_map] at hlen
    exact h _ (by omega) hlen
  · rfl
theorem bitLen_log : ∀ k, k < 256 → k ≠ 0 → Go.Lib.bitLen k = Nat.log2 k + 1 := by decide +kernel
theorem parts_len (l : List UInt8) : 1 ≤ (parts l).length ∧ (parts l).length ≤ l.length + 1 := cutC_len [] l

end Go.Proofs.YtielfnjkfceliaaGreatDoor.M

namespace Go.Proofs.YtielfnjkfceliaaGreatDoor.C
open Go.RowKit K M
set_option linter.unusedVariables false
set_option linter.unusedSimpArgs false

/-- What is still to be cut at place j. -/
def restC (l : List UInt8) (j : Nat) (acc : List UInt8) : List (List UInt8) := if j ≤ l.length then cutC acc (l.drop j) else []
theorem restC_char {l : List UInt8} {j : Nat} {acc : List UInt8} (h : j < l.length) (hc : ¬ l[j] = 44) : restC l j acc = restC l (j + 1) (acc ++ [l[j]]) := by
  unfold restC
  rw [if_pos (by omega), if_pos (by omega), List.drop_eq_getElem_cons h, cutC, if_neg hc]
theorem restC_comma {l : List UInt8} {j : Nat} {acc : List UInt8} (h : j < l.length) (hc : l[j] = 44) : restC l j acc = acc :: restC l (j + 1) [] := by
  unfold restC
  rw [if_pos (by omega), if_pos (by omega), List.drop_eq_getElem_cons h, cutC, if_pos hc]
theorem restC_end {l : List UInt8} {acc : List UInt8} : restC l l.length acc = acc :: restC l (l.length + 1) [] := by
  unfold restC
  rw [if_pos (Nat.le_refl _), if_neg (by omega), List.drop_length]
  rfl

/-- What holds of the parts that have been read: each is a number, and they are the first ones. -/
structure Read (l : List UInt8) (D : List (List UInt8)) (R : List (List UInt8)) : Prop where
  eq : D ++ R = parts l
  all : D.all piB = true
theorem Read.step {l : List UInt8} {D R : List (List UInt8)} {acc : List UInt8} (h : Read l D (acc :: R)) (hb : piB acc = true) : Read l (D ++ [acc]) R :=
  ⟨by rw [List.append_assoc, List.singleton_append]; exact h.eq, by rw [List.all_append, h.all]; simp [hb]⟩

theorem no_more {n N : Nat} (h : ∀ M, M < N → n ≠ 2 ^ M) (hN : n ≠ 2 ^ N) : ∀ M, M < N + 1 → n ≠ 2 ^ M := fun M hM => by
  by_cases e : M = N
  · rw [e]; exact hN
  · exact h M (by omega)
theorem spi_acc (acc : List UInt8) (w : World) (h : acc.length ≤ 1048576) :
    Calls Tryz.prog 61 #[.string ⟨acc.toArray⟩] w (RetV w (.tuple #[.int .i64 (piR acc), .bool (piB acc)])) := by
  have := spi_any ⟨acc.toArray⟩ w h
  exact this
theorem one_byte (s : ByteArray) (j : Nat) (h : j < s.size) : (s.extract j (j + 1)).data = #[s[j]] := by
  apply Array.toList_inj.1
  rw [Lib.extract_data]
  have hj : j < s.data.toList.length := h
  rw [show j + 1 - j = 1 by omega, List.drop_eq_getElem_cons hj]
  rfl
theorem str_ext (s : ByteArray) (j : Nat) (acc : List UInt8) (h : j < s.size) : (⟨acc.toArray⟩ : ByteArray) ++ s.extract j (j + 1) = ⟨(acc ++ [s[j]]).toArray⟩ := by
  apply ByteArray.ext
  rw [ByteArray.data_append, one_byte s j h]
  simp

set_option maxRecDepth 100000 in
set_option maxHeartbeats 1600000 in
theorem psS_long (s : ByteArray) (w : World) (hs : 200 < s.size) (hs2 : s.size ≤ 1048576) (rn : Int) (rx : List Int) (rb : Bool) (hr : 0 = rn ∧ [] = rx ∧ false = rb) :
    Calls Tryz.prog 27 #[.string s] w (RetFB w rn rx rb) := by
  have HW := Lib.hid (St.start w)
  have hd : decide ((s.size : Int) ≤ 200) = false := by simp; omega
  have HZ := Lib.hid (show (∀ M : Nat, M ≤ 5 → 0 ≠ 2 ^ M) → 0 = rn ∧ [] = rx ∧ false = rb from fun _ => hr)
  have HY := Lib.hid (show ∀ N : Nat, N ≤ 5 → 0 = 2 ^ N → made (N : Int) [] = (rn, rx, rb) from fun N _ h => absurd h (Nat.ne_of_lt (Nat.two_pow_pos N)))
  clear hr
  go_enter Tryz.func27, Tryz.ntmps27
  go_wp2
  go_loopw [4, 5, 6] (fun v p i wr => i = .int .i64 ((0 : Nat) : Int) ∧ v = .slice (some ⟨w.heap.size + 1, 0, none⟩) 0 0 ∧ St w wr [il (.slice (some ⟨w.heap.size + 1, 0, none⟩) 0 0) 0 [], bx w.heap.size 26 [.int .i64 0, .slice none 0 0]]) (fun _ _ _ _ => 0)
  case atStart => exact ⟨rfl, by simp, by have := (HW.out.alloc [.int .i64 0, .slice none 0 0] 26).empty; simpa only [World.size_alloc] using this⟩
  case round =>
    obtain ⟨rfl, rfl, hS⟩ := hrel
    have HSA := Lib.hid hS
    clear hS
    go_wp2
    go_loopw [9] (fun q wr => ∃ N : Nat, q = .int .i64 N ∧ N ≤ 6 ∧ (∀ M, M < N → 0 ≠ 2 ^ M) ∧ St w wr [il (.slice (some ⟨w.heap.size + 1, 0, none⟩) 0 0) 0 [], bx w.heap.size 26 [.int .i64 0, .slice none 0 0]]) (fun q _ => 6 - (intOf q).toNat)
    case atStart => exact ⟨0, rfl, by omega, fun M h => absurd h (by omega), HSA.out⟩
    case round =>
      obtain ⟨N, rfl, hN, hno, hS⟩ := hrel
      obtain ⟨r1, rf⟩ := hS.box (i := 1) rfl
      have r10 := r1 0 _ rfl
      have r11 := r1 1 _ rfl
      have rf0 := rf 0
      have rf1 := rf 1
      have rl := (hS.lt (i := 1) rfl).2
      have HS := Lib.hid hS
      have HNO := Lib.hid hno
      clear r1 rf hno
      by_cases hN5 : N ≤ 5
      · obtain ⟨p, hpp⟩ : ∃ p, p = 2 ^ N := ⟨_, rfl⟩
        have hsh := shl_one (n := (N : Int)) (m := p) (by omega) (by omega) (by rw [hpp]; rfl)
        simp only [Int.toNat_natCast] at hsh
        have hn5 : (N : Int) ≤ 5 := by omega
        by_cases hnp : 0 = p
        · have hb1 : ((0 : Nat) : Int) = (p : Int) := by rw [hnp]
          have hbt : (((0 : Nat) : Int) == (p : Int)) = true := beq_iff_eq.2 hb1
          have hmade := HY.out N hN5 (by rw [hnp, hpp])
          obtain ⟨B, d, hcall, hend⟩ := made_any (N : Int) (some ⟨w.heap.size + 1, 0, none⟩) [] 0 0 wr (OwnN.len (HS.out.own (i := 0) rfl)) (hS.ints (i := 0) rfl)
          rw [hmade] at hcall hend
          have HC := Lib.hid hcall
          have HE := Lib.hid hend
          clear hcall hend hS hmade hpp hb1 hnp
          go_wp2_with fail
          refine HC.out.mono ?_
          rintro e w2 ⟨rfl, hb⟩
          have hS2 := HS.out.below hb
          obtain ⟨p1, q1⟩ := hS2.box (i := 1) rfl
          have p10 := p1 0 _ rfl
          have p11 := p1 1 _ rfl
          have q10 := q1 0
          have q11 := q1 1
          have pl := (hS2.lt (i := 1) rfl).2
          clear p1 q1 hb r10 r11 rf0 rf1 rl
          have HS2 := Lib.hid hS2
          clear hS2
          go_wp2
          have hS3 := ((HS2.out.store (i := 1) rfl 0 (.int .i64 rn)).store (i := 1) rfl 1 (.slice B rx.length d)).alloc [.int .i64 rn, .slice B rx.length d] 26
          exact bodyPost_ret (v := .tuple #[.agg #[.int .i64 rn, .slice B rx.length d], .bool rb]) (by simp [results, Tryz.results27, go_sem, p10, p11, q10, q11, pl]) rfl ⟨B, d, rfl, ends_own hS3 (i := 1) rfl HE.out, hS3.base⟩
        · have hbf : (((0 : Nat) : Int) == (p : Int)) = false := beq_eq_false_iff_ne.2 (fun e => hnp (by exact_mod_cast e))
          have HP := Lib.hid (show 0 ≠ 2 ^ N by rw [← hpp]; exact hnp)
          clear hnp hpp hS
          go_wp2
          go_roundw
          case rel => exact ⟨N + 1, by go_num, by omega, no_more HNO.out HP.out, HS.out⟩
          case measure => simp [intOf] <;> omega
      · obtain rfl : N = 6 := by omega
        obtain ⟨rfl, rfl, rfl⟩ := HZ.out (fun M h => HNO.out M (by omega))
        clear hS
        go_wp2
        have hZ := (HS.out.store (i := 1) rfl 0 (.int .i64 0)).store (i := 1) rfl 1 (.slice none 0 0)
        exact bodyPost_ret (v := .tuple #[.agg #[.int .i64 0, .slice none 0 0], .bool false]) (by simp [results, Tryz.results27, go_sem, r10, r11, rf0, rf1]) rfl ⟨none, 0, rfl, Own.nil _ _, hZ.base⟩

set_option maxRecDepth 100000 in
set_option maxHeartbeats 6400000 in
theorem psS_main (s : ByteArray) (w : World) (hs : s.size ≤ 200) (rn : Int) (rx : List Int) (rb : Bool) (hr : Hid (parseFn s.data.toList = (rn, rx, rb))) :
    Calls Tryz.prog 27 #[.string s] w (RetFB w rn rx rb) := by
  have HW := Lib.hid (St.start w)
  have hd : (s.size : Int) ≤ 200 := by omega
  obtain ⟨bs, hbs⟩ : ∃ bs, s.data.toList = bs := ⟨_, rfl⟩
  have hsz : bs.length = s.size := by rw [← hbs]; rfl
  rw [hbs] at hr
  have HB := Lib.hid hbs
  have HL := Lib.hid hsz
  clear hbs hsz
  obtain ⟨i0, hi, hz0, hz1, hz2⟩ := info_parts info_int
  go_enter Tryz.func27, Tryz.ntmps27
  go_wp2
  go_loopw [4, 5, 6, 7, 8] (fun v p i _ _ wr => ∃ (j n : Nat) (D : List (List UInt8)) (acc : List UInt8) (V : Option Addr) (c : Nat), i = .int .i64 j ∧ p = .string ⟨acc.toArray⟩ ∧ v = .slice V n c ∧ j ≤ s.size + 1 ∧ n ≤ j ∧ acc.length ≤ j ∧ D.length = n ∧ Read bs D (restC bs j acc) ∧ St w wr [il (.slice V n c) n (D.map piR), bx w.heap.size 26 [.int .i64 0, .slice none 0 0]]) (fun _ _ i _ _ _ => s.size + 1 - (intOf i).toNat)
  case atStart => exact ⟨0, 0, [], [], some ⟨w.heap.size + 1, 0, none⟩, 0, rfl, rfl, by simp, by omega, by omega, by simp, rfl, ⟨by simp [restC, parts], rfl⟩, by have := (HW.out.alloc [.int .i64 0, .slice none 0 0] 26).empty; simpa only [World.size_alloc, List.map_nil] using this⟩
  case round =>
    obtain ⟨j, n, D, acc, V, c, rfl, rfl, rfl, hj, hnj, hacc, hDn, hread, hS⟩ := hrel
    have HS1 := Lib.hid hS
    have HRD := Lib.hid hread
    have HDN := Lib.hid hDn
    clear hS hread hDn
    by_cases hjs : j ≤ s.size
    · have hji : (j : Int) ≤ (s.size : Int) := by omega
      by_cases hjl : j < s.size
      · have hjb : j < bs.length := by rw [HL.out]; exact hjl
        have hbj : s[j] = bs[j] := by have := HB.out; subst this; rfl
        have hjli : (j : Int) < (s.size : Int) := by omega
        have hji1 : (j : Int) + 1 ≤ (s.size : Int) := by omega
        by_cases hch : bs[j] = 44
        · have h44 : ((s[j].toNat : Int) != 44) = false := by rw [hbj, hch]; rfl
          have hrest := restC_comma (acc := acc) hjb hch
          have HRE := Lib.hid hrest
          clear hbj hch hrest hjb
          have hacc2 : acc.length ≤ 1048576 := by omega
          have HSTEP := HRE
          cases hpi : piB acc
          · have hnone := parse_bad (l := bs) (D := D) (R := restC bs (j + 1) []) (acc := acc) (by rw [← HSTEP.out]; exact HRD.out.eq) hpi
            rw [hr.out] at hnone
            obtain ⟨rfl, rfl, rfl⟩ : rn = 0 ∧ rx = [] ∧ rb = false := by simpa using hnone
            have HC := spi_acc acc
            rw [hpi] at HC
            have HC := Lib.hid HC
            clear hpi hnone
            go_wp2_with fail
            refine (HC.out _ hacc2).mono ?_
            rintro e w1 ⟨rfl, hb⟩
            have hS1 := HS1.out.below hb
            obtain ⟨r1, rf⟩ := hS1.box (i := 1) rfl
            have r10 := r1 0 _ rfl
            have r11 := r1 1 _ rfl
            have rf0 := rf 0
            have rf1 := rf 1
            have HS2 := Lib.hid hS1
            clear r1 rf hb hS1
            go_wp2
            have hZ := (HS2.out.store (i := 1) rfl 0 (.int .i64 0)).store (i := 1) rfl 1 (.slice none 0 0)
            exact bodyPost_ret (v := .tuple #[.agg #[.int .i64 0, .slice none 0 0], .bool false]) (by simp [results, Tryz.results27, go_sem, r10, r11, rf0, rf1]) rfl ⟨none, 0, rfl, Own.nil _ _, hZ.base⟩
          · have HC := spi_acc acc
            rw [hpi] at HC
            have HC := Lib.hid HC
            have HPI := Lib.hid hpi
            clear hpi
            generalize hpr : piR acc = x at HC
            have HPR := Lib.hid hpr
            clear hpr
            go_wp2_with fail
            refine (HC.out _ hacc2).mono ?_
            rintro e w1 ⟨rfl, hb⟩
            have HS2 := Lib.hid (HS1.out.below hb)
            clear hb
            go_wp2_with (at_builtin; refine wpList_app1 rfl (.tmp 49) (.tmp 51) 24 rfl x Tryz.underlying24 hi hz0 hz1 hz2 ((HS2.out.alloc _ _).drop 0) (i := 0) rfl rfl rfl (by simp) (by omega) ?_; intro V' c' w2 hS2; have HS3 := Lib.hid hS2; clear hS2)
            go_roundw
            case rel => exact ⟨j + 1, n + 1, D ++ [acc], [], V', c', by go_num, rfl, rfl, by omega, by omega, by simp, by rw [List.length_append, HDN.out]; rfl, Read.step (by rw [← HSTEP.out]; exact HRD.out) HPI.out, by rw [List.map_append, List.map_cons, List.map_nil, HPR.out]; exact HS3.out⟩
            case measure => simp [intOf] <;> omega
        · have h44 : ((s[j].toNat : Int) != 44) = true := by
            rw [hbj]
            refine bne_iff_ne.2 fun e => hch ?_
            have : bs[j].toNat = 44 := by omega
            exact UInt8.toNat_inj.1 this
          have hrest := restC_char (acc := acc) hjb hch
          have HRE := Lib.hid hrest
          have HBJ := Lib.hid hbj
          have HACC := Lib.hid (show acc ++ [bs[j]] = acc ++ [s[j]] by rw [hbj])
          clear hbj hch hrest
          go_wp2
          go_roundw
          case rel => exact ⟨j + 1, n, D, acc ++ [s[j]], V, c, by go_num, by rw [str_ext s j acc hjl], rfl, by omega, by omega, by simp; omega, HDN.out, by rw [← HACC.out, ← HRE.out]; exact HRD.out, HS1.out⟩
          case measure => simp [intOf] <;> omega
      · obtain rfl : j = s.size := by omega
        have hjli : ¬ (s.size : Int) < (s.size : Int) := by omega
        have hrest := restC_end (l := bs) (acc := acc)
        rw [HL.out] at hrest
        have HRE := Lib.hid hrest
        clear hrest
        have hacc2 : acc.length ≤ 1048576 := by omega
        have HSTEP := HRE
        cases hpi : piB acc
        · have hnone := parse_bad (l := bs) (D := D) (R := restC bs (s.size + 1) []) (acc := acc) (by rw [← HSTEP.out]; exact HRD.out.eq) hpi
          rw [hr.out] at hnone
          obtain ⟨rfl, rfl, rfl⟩ : rn = 0 ∧ rx = [] ∧ rb = false := by simpa using hnone
          have HC := spi_acc acc
          rw [hpi] at HC
          have HC := Lib.hid HC
          clear hpi hnone
          go_wp2_with fail
          refine (HC.out _ hacc2).mono ?_
          rintro e w1 ⟨rfl, hb⟩
          have hS1 := HS1.out.below hb
          obtain ⟨r1, rf⟩ := hS1.box (i := 1) rfl
          have r10 := r1 0 _ rfl
          have r11 := r1 1 _ rfl
          have rf0 := rf 0
          have rf1 := rf 1
          have HS2 := Lib.hid hS1
          clear r1 rf hb hS1
          go_wp2
          have hZ := (HS2.out.store (i := 1) rfl 0 (.int .i64 0)).store (i := 1) rfl 1 (.slice none 0 0)
          exact bodyPost_ret (v := .tuple #[.agg #[.int .i64 0, .slice none 0 0], .bool false]) (by simp [results, Tryz.results27, go_sem, r10, r11, rf0, rf1]) rfl ⟨none, 0, rfl, Own.nil _ _, hZ.base⟩
        · have HC := spi_acc acc
          rw [hpi] at HC
          have HC := Lib.hid HC
          have HPI := Lib.hid hpi
          clear hpi
          generalize hpr : piR acc = x at HC
          have HPR := Lib.hid hpr
          clear hpr
          go_wp2_with fail
          refine (HC.out _ hacc2).mono ?_
          rintro e w1 ⟨rfl, hb⟩
          have HS2 := Lib.hid (HS1.out.below hb)
          clear hb
          go_wp2_with (at_builtin; refine wpList_app1 rfl (.tmp 49) (.tmp 51) 24 rfl x Tryz.underlying24 hi hz0 hz1 hz2 ((HS2.out.alloc _ _).drop 0) (i := 0) rfl rfl rfl (by simp) (by omega) ?_; intro V' c' w2 hS2; have HS3 := Lib.hid hS2; clear hS2)
          go_roundw
          case rel => exact ⟨s.size + 1, n + 1, D ++ [acc], [], V', c', by go_num, rfl, rfl, by omega, by omega, by simp, by rw [List.length_append, HDN.out]; rfl, Read.step (by rw [← HSTEP.out]; exact HRD.out) HPI.out, by rw [List.map_append, List.map_cons, List.map_nil, HPR.out]; exact HS3.out⟩
          case measure => simp [intOf] <;> omega
    · obtain rfl : j = s.size + 1 := by omega
      have hji : ¬ ((s.size + 1 : Nat) : Int) ≤ (s.size : Int) := by omega
      have hall : D = parts bs := by
        have := HRD.out.eq
        rw [show restC bs (s.size + 1) acc = [] by unfold restC; rw [if_neg (by rw [HL.out]; omega)], List.append_nil] at this
        exact this
      have hpall : (parts bs).all piB = true := by rw [← hall]; exact HRD.out.all
      have hblen : bs.length ≤ 200 := by rw [HL.out]; exact hs
      have hlen2 : (parts bs).length = n := by rw [← hall]; exact HDN.out
      have HY := Lib.hid (show ∀ N : Nat, N ≤ 5 → n = 2 ^ N → made (N : Int) (D.map piR) = (rn, rx, rb) from fun N _ h => by rw [← hr.out, parse_made hblen hpall (hlen2.trans h), hall])
      have HZ := Lib.hid (show (∀ M : Nat, M ≤ 5 → n ≠ 2 ^ M) → 0 = rn ∧ [] = rx ∧ false = rb from fun h => by
        have := parse_none (l := bs) (fun M hM => by rw [hlen2]; exact h M hM)
        rw [hr.out] at this
        simpa [eq_comm] using this)
      have HSA := HS1
      clear hall hpall hblen hlen2
      go_wp2
      go_loopw [9] (fun q wr => ∃ N : Nat, q = .int .i64 N ∧ N ≤ 6 ∧ (∀ M, M < N → n ≠ 2 ^ M) ∧ St w wr [il (.slice V n c) n (D.map piR), bx w.heap.size 26 [.int .i64 0, .slice none 0 0]]) (fun q _ => 6 - (intOf q).toNat)
      case atStart => exact ⟨0, rfl, by omega, fun M h => absurd h (by omega), HSA.out⟩
      case round =>
        obtain ⟨N, rfl, hN, hno, hS⟩ := hrel
        obtain ⟨r1, rf⟩ := hS.box (i := 1) rfl
        have r10 := r1 0 _ rfl
        have r11 := r1 1 _ rfl
        have rf0 := rf 0
        have rf1 := rf 1
        have rl := (hS.lt (i := 1) rfl).2
        have HS := Lib.hid hS
        have HNO := Lib.hid hno
        clear r1 rf hno
        by_cases hN5 : N ≤ 5
        · obtain ⟨p, hpp⟩ : ∃ p, p = 2 ^ N := ⟨_, rfl⟩
          have hsh := shl_one (n := (N : Int)) (m := p) (by omega) (by omega) (by rw [hpp]; rfl)
          simp only [Int.toNat_natCast] at hsh
          have hn5 : (N : Int) ≤ 5 := by omega
          by_cases hnp : n = p
          · have hb1 : ((n : Nat) : Int) = (p : Int) := by rw [hnp]
            have hbt : (((n : Nat) : Int) == (p : Int)) = true := beq_iff_eq.2 hb1
            have hmade := HY.out N hN5 (by rw [hnp, hpp])
            obtain ⟨B, d, hcall, hend⟩ := made_any (N : Int) V (D.map piR) n c wr (OwnN.len (HS.out.own (i := 0) rfl)) (hS.ints (i := 0) rfl)
            rw [hmade] at hcall hend
            have HC := Lib.hid hcall
            have HE := Lib.hid hend
            clear hcall hend hS hmade hpp hb1 hnp
            go_wp2_with fail
            refine HC.out.mono ?_
            rintro e w2 ⟨rfl, hb⟩
            have hS2 := HS.out.below hb
            obtain ⟨p1, q1⟩ := hS2.box (i := 1) rfl
            have p10 := p1 0 _ rfl
            have p11 := p1 1 _ rfl
            have q10 := q1 0
            have q11 := q1 1
            have pl := (hS2.lt (i := 1) rfl).2
            clear p1 q1 hb r10 r11 rf0 rf1 rl
            have HS2 := Lib.hid hS2
            clear hS2
            go_wp2
            have hS3 := ((HS2.out.store (i := 1) rfl 0 (.int .i64 rn)).store (i := 1) rfl 1 (.slice B rx.length d)).alloc [.int .i64 rn, .slice B rx.length d] 26
            exact bodyPost_ret (v := .tuple #[.agg #[.int .i64 rn, .slice B rx.length d], .bool rb]) (by simp [results, Tryz.results27, go_sem, p10, p11, q10, q11, pl]) rfl ⟨B, d, rfl, ends_own hS3 (i := 1) rfl HE.out, hS3.base⟩
          · have hbf : (((n : Nat) : Int) == (p : Int)) = false := beq_eq_false_iff_ne.2 (fun e => hnp (by exact_mod_cast e))
            have HP := Lib.hid (show n ≠ 2 ^ N by rw [← hpp]; exact hnp)
            clear hnp hpp hS
            go_wp2
            go_roundw
            case rel => exact ⟨N + 1, by go_num, by omega, no_more HNO.out HP.out, HS.out⟩
            case measure => simp [intOf] <;> omega
        · obtain rfl : N = 6 := by omega
          obtain ⟨rfl, rfl, rfl⟩ := HZ.out (fun M h => HNO.out M (by omega))
          clear hS
          go_wp2
          have hZ := (HS.out.store (i := 1) rfl 0 (.int .i64 0)).store (i := 1) rfl 1 (.slice none 0 0)
          exact bodyPost_ret (v := .tuple #[.agg #[.int .i64 0, .slice none 0 0], .bool false]) (by simp [results, Tryz.results27, go_sem, r10, r11, rf0, rf1]) rfl ⟨none, 0, rfl, Own.nil _ _, hZ.base⟩

theorem psS_any (s : ByteArray) (w : World) (hs : s.size ≤ 1048576) : Calls Tryz.prog 27 #[.string s] w (RetFB w (parseFn s.data.toList).1 (parseFn s.data.toList).2.1 (parseFn s.data.toList).2.2) := by
  by_cases h : s.size ≤ 200
  · exact psS_main s w h _ _ _ (Lib.hid rfl)
  · rw [parse_long (by have : s.data.toList.length = s.size := rfl
                       omega)]
    exact psS_long s w (by omega) hs _ _ _ ⟨rfl, rfl, rfl⟩

end Go.Proofs.YtielfnjkfceliaaGreatDoor.C

namespace Go.Proofs.YtielfnjkfceliaaGreatDoor.C
open Go.RowKit K M
set_option linter.unusedVariables false
set_option linter.unusedSimpArgs false

/-- The library's own number: whatever it holds. -/
def MaxLenAt (w : World) : Prop := ∃ m : Int, w.cell? ⟨2, 0, none⟩ = some (.int .i64 m)
theorem maxLen_on {w w' : World} (h : MaxLenAt w) (hb : Below w.heap.size w w') : MaxLenAt w' := by
  obtain ⟨m, hm⟩ := h
  exact ⟨m, (hb.cell (World.block_lt_of_cell? w _ hm)).trans hm⟩

theorem psI_long (s : ByteArray) (w : World) (hs : 200 < s.size) (hs2 : s.size ≤ 1048576) :
    Calls Tryz.prog 12 #[.string s] w (RetFB w 0 [] false) := by
  have HW := Lib.hid (St.start w)
  have hd : (200 : Int) < (s.size : Int) := by omega
  go_enter Tryz.func12, Tryz.ntmps12
  go_wp2
  exact bodyPost_ret (v := .tuple #[.agg #[.int .i64 0, .slice none 0 0], .bool false]) (by simp [results, Tryz.results12, go_sem]) rfl ⟨none, 0, rfl, Own.nil _ _, (HW.out.alloc _ _).base⟩

/-- The pieces that the library's Split lays. -/
theorem pieces (s : ByteArray) : ∃ P : List ByteArray, Lib.splitB ⟨#[44]⟩ 0 (Lib.countB s ⟨#[44]⟩) s = P ∧ P.map (·.data.toList) = parts s.data.toList ∧ Lib.countB s ⟨#[44]⟩ + 1 = P.length := by
  obtain ⟨h1, h2⟩ := split_parts _ s.data.toList (Nat.le_refl _)
  have e : (Lib.splitB ⟨#[44]⟩ 0 (Lib.countB s ⟨#[44]⟩) s).map (·.data.toList) = parts s.data.toList := (Lib.splitB_data _ _ _ _).trans h1
  exact ⟨_, rfl, e, by have := congrArg List.length e; rw [List.length_map] at this; rw [this]; exact h2⟩

theorem split_any (s : ByteArray) (P : List ByteArray) (m : Nat) (w : World) (hs : s.size ≤ 200) (h : MaxLenAt w) (hP : Lib.splitB ⟨#[44]⟩ 0 (Lib.countB s ⟨#[44]⟩) s = P) (hm : Lib.countB s ⟨#[44]⟩ + 1 = m) :
    Calls Tryz.prog 46 #[.string s, .string ⟨#[44]⟩] w fun e w' => e = .returned (.slice (some ⟨w.heap.size, 0, none⟩) m m) ∧ w.alloc (.cells ⟨P.map Value.string⟩ 9) = w' := by
  obtain ⟨k, hk⟩ := h
  refine (Tryz.strings_Split s ⟨#[44]⟩ k w (by omega) hk (by decide)).mono fun e w' ⟨he, hw⟩ => ⟨?_, ?_⟩
  · rw [he, hm]
  · rw [hw, hP]

theorem len_any (m : Nat) (w : World) (h0 : m ≠ 0) (hm : m < 256) :
    Calls Tryz.prog 47 #[.int .u64 m] w fun e w' => e = .returned (.int .i64 ((Nat.log2 m : Nat) + 1 : Int)) ∧ w = w' := by
  refine (Tryz.bits_Len (m : Int) w (by omega) (by omega)).mono fun e w' ⟨he, hw⟩ => ⟨?_, hw.symm⟩
  rw [he, Int.toNat_natCast, bitLen_log m hm h0]
  rfl

theorem ipi_acc (s : ByteArray) (acc : List UInt8) (he : s.data.toList = acc) (w : World) (h : s.size ≤ 1048576) (ht : Hid (Tab w)) :
    Calls Tryz.prog 48 #[.string s] w (RetV w (.tuple #[.int .i64 (piR acc), .bool (piB acc)])) := by
  subst he
  exact ipi_any s w h ht

set_option maxRecDepth 100000 in
set_option maxHeartbeats 6400000 in
theorem psI_main (s : ByteArray) (w : World) (hs : s.size ≤ 200) (ht : Hid (Tab w)) (hml : Hid (MaxLenAt w)) (rn : Int) (rx : List Int) (rb : Bool) (hr : Hid (parseFn s.data.toList = (rn, rx, rb))) :
    Calls Tryz.prog 12 #[.string s] w (RetFB w rn rx rb) := by
  have HW := Lib.hid (St.start w)
  have hd : (s.size : Int) ≤ 200 := by omega
  obtain ⟨P, hP, hPm, hPc⟩ := pieces s
  obtain ⟨bs, hbs⟩ : ∃ bs, s.data.toList = bs := ⟨_, rfl⟩
  have hsz : bs.length = s.size := by rw [← hbs]; rfl
  rw [hbs] at hr hPm
  have hplen := parts_len bs
  have hpl : P.length = (parts bs).length := by rw [← hPm, List.length_map]
  obtain ⟨m, hm⟩ : ∃ m, P.length = m := ⟨_, rfl⟩
  rw [hm] at hPc hpl
  have hm0 : m ≠ 0 := by omega
  have hm1 : m ≤ 201 := by omega
  have hlong : ∀ x ∈ P, x.size ≤ 1048576 := fun x hx => by
    have h1 : x.data.toList ∈ parts bs := by rw [← hPm]; exact List.mem_map_of_mem hx
    have h2 := cutC_each [] bs _ h1
    have h3 : x.data.toList.length = x.size := rfl
    simp only [List.length_nil] at h2
    omega
  have HP := Lib.hid hP
  have HPM := Lib.hid hPm
  have HPC := Lib.hid hPc
  have HPL := Lib.hid hpl
  have HM := Lib.hid hm
  have HL := Lib.hid hsz
  have HLO := Lib.hid hlong
  clear hP hPm hPc hbs hsz hplen hpl hm hlong
  obtain ⟨i0, hi, hz0, hz1, hz2⟩ := info_parts info_int
  have hw64 : IntKind.u64.wrap (m : Int) = (m : Int) := by rw [IntKind.wrap_u64]; omega
  go_enter Tryz.func12, Tryz.ntmps12
  go_wp2_with fail
  refine St.use (w0 := w) (by exact HW.out.alloc _ _) ?_
  intro hS
  refine (split_any s P m _ hs (maxLen_on hml.out (hS.base.mono (Nat.le_refl _))) HP.out HPC.out).mono ?_
  rintro e w1 ⟨rfl, rfl⟩
  have HS1 := Lib.hid (hS.alloc (P.map Value.string) 9)
  clear hS
  go_wp2_with fail
  refine (len_any m _ hm0 (by omega)).mono ?_
  rintro e w1 ⟨rfl, rfl⟩
  obtain ⟨E, hE⟩ : ∃ E, Nat.log2 m = E := ⟨_, rfl⟩
  rw [hE]
  have HE := Lib.hid hE
  have hE8 : E ≤ 8 := by
    rw [← hE]
    have := (Nat.log2_lt hm0 (k := 8)).2 (by omega)
    omega
  clear hE
  go_wp2
  have HSA := Lib.hid (show St w _ [il (.slice none 0 0) 0 [], bx (w.heap.size + 1 + 1) 26 [.int .i64 E, .slice none 0 0], bx (w.heap.size + 1) 9 (P.map Value.string), bx w.heap.size 26 [.int .i64 0, .slice none 0 0]] from by
    have := (HS1.out.alloc [.int .i64 E, .slice none 0 0] 26).nil
    simpa only [World.size_alloc] using this)
  go_loopw [7, 8, 9, 24] (fun _ _ _ i wr => ∃ (j : Nat) (D : List (List UInt8)) (V : Option Addr) (c : Nat), i = .int .i64 j ∧ j ≤ m ∧ D.length = j ∧ Read bs D ((parts bs).drop j) ∧ St w wr [il (.slice V j c) j (D.map piR), bx (w.heap.size + 1 + 1) 26 [.int .i64 E, .slice V j c], bx (w.heap.size + 1) 9 (P.map Value.string), bx w.heap.size 26 [.int .i64 0, .slice none 0 0]]) (fun _ _ _ i _ => m - (intOf i).toNat)
  case atStart => exact ⟨0, [], none, 0, rfl, by omega, rfl, ⟨by simp, rfl⟩, HSA.out⟩
  case round =>
    obtain ⟨j, D, V, c, rfl, hj, hDn, hread, hS⟩ := hrel
    have HRD := Lib.hid hread
    have HDN := Lib.hid hDn
    have HS2 := Lib.hid hS
    clear hread hDn hS
    obtain ⟨r1, rf⟩ := HS2.out.box (i := 3) rfl
    have r10 := r1 0 _ rfl
    have r11 := r1 1 _ rfl
    have rf0 := rf 0
    have rf1 := rf 1
    obtain ⟨f1, ff⟩ := HS2.out.box (i := 1) rfl
    have f10 := f1 0 _ rfl
    have f11 := f1 1 _ rfl
    have ff1 := ff 1
    clear r1 rf f1 ff
    by_cases hlt : j < m
    · have hj0 : (0 : Int) ≤ (j : Int) := by omega
      have hjn : (j : Int) < (m : Int) := by omega
      have hjP : j < P.length := by rw [HM.out]; exact hlt
      have hjb : j < (parts bs).length := by rw [← HPL.out]; exact hlt
      have hpc := (HS2.out.box (i := 2) rfl).1 j (.string P[j]) (by simp [hjP])
      have hacc : P[j].data.toList = (parts bs)[j] := by
        have := HPM.out
        simp only [← this, List.getElem_map]
      have hdrop : (parts bs).drop j = (parts bs)[j] :: (parts bs).drop (j + 1) := List.drop_eq_getElem_cons hjb
      have hsz := HLO.out P[j] (List.getElem_mem hjP)
      have hipi := fun W => ipi_acc P[j] _ hacc W hsz
      generalize (parts bs)[j] = acc at hdrop hipi
      generalize P[j] = S at hpc hipi hsz
      have HPI := Lib.hid hipi
      have HDR := Lib.hid hdrop
      have HTB := Lib.hid (tab_on ht.out (HS2.out.base.mono (Nat.le_refl _)))
      clear hacc hdrop hipi hjP hjb
      cases hpi : piB acc
      · have hnone := parse_bad (l := bs) (D := D) (R := (parts bs).drop (j + 1)) (acc := acc) (by rw [← HDR.out]; exact HRD.out.eq) hpi
        rw [hr.out] at hnone
        obtain ⟨rfl, rfl, rfl⟩ : rn = 0 ∧ rx = [] ∧ rb = false := by simpa using hnone
        have HC := HPI.out
        rw [hpi] at HC
        have HC := Lib.hid HC
        clear hpi hnone
        go_wp2_with fail
        refine (HC.out _ HTB).mono ?_
        rintro e w1 ⟨rfl, hb⟩
        have hS1 := HS2.out.below hb
        clear r10 r11 rf0 rf1 f10 f11 ff1 hpc
        obtain ⟨r1, rf⟩ := hS1.box (i := 3) rfl
        have r10 := r1 0 _ rfl
        have r11 := r1 1 _ rfl
        have rf0 := rf 0
        have rf1 := rf 1
        have HS3 := Lib.hid hS1
        clear r1 rf hb hS1
        go_wp2
        have hZ := (HS3.out.store (i := 3) rfl 0 (.int .i64 0)).store (i := 3) rfl 1 (.slice none 0 0)
        exact bodyPost_ret (v := .tuple #[.agg #[.int .i64 0, .slice none 0 0], .bool false]) (by simp [results, Tryz.results12, go_sem, r10, r11, rf0, rf1]) rfl ⟨none, 0, rfl, Own.nil _ _, hZ.base⟩
      · have HC := HPI.out
        rw [hpi] at HC
        have HPB := Lib.hid hpi
        clear hpi
        generalize hpr : piR acc = x at HC
        have HPR := Lib.hid hpr
        have HC := Lib.hid HC
        clear hpr
        go_wp2_with fail
        refine (HC.out _ HTB).mono ?_
        rintro e w1 ⟨rfl, hb⟩
        have hS1 := HS2.out.below hb
        clear r10 r11 rf0 rf1 f10 f11 ff1 hpc
        obtain ⟨f1, ff⟩ := hS1.box (i := 1) rfl
        have f10 := f1 0 _ rfl
        have f11 := f1 1 _ rfl
        have ff1 := ff 1
        have fl := (hS1.lt (i := 1) rfl).2
        have HS3 := Lib.hid hS1
        clear f1 ff hb hS1
        go_wp2_with (at_builtin; refine wpList_app1 rfl (.tmp 37) (.tmp 39) 24 rfl x Tryz.underlying24 hi hz0 hz1 hz2 ((HS3.out.alloc _ _).drop 0) (i := 0) rfl rfl rfl (by simp) (by omega) ?_; intro V' c' w2 hS2; have e1 := (hS2.box (i := 1) rfl).1 1 _ rfl; have e2 := (hS2.box (i := 1) rfl).2 1; have HS4 := Lib.hid hS2; clear hS2)
        have HS5 := Lib.hid (HS4.out.store (i := 1) rfl 1 (.slice V' (j + 1) c'))
        go_roundw
        case rel => exact ⟨j + 1, D ++ [acc], V', c', by go_num, by omega, by rw [List.length_append, HDN.out]; rfl, Read.step (by rw [← HDR.out]; exact HRD.out) HPB.out, by rw [List.map_append, List.map_cons, List.map_nil, HPR.out]; exact HS5.out⟩
        case measure => simp [intOf] <;> omega
    · obtain rfl : j = m := by omega
      have hjn : ¬ (j : Int) < (j : Int) := by omega
      have hall : D = parts bs := by
        have := HRD.out.eq
        rw [List.drop_of_length_le (by rw [← HPL.out]; exact Nat.le_refl _), List.append_nil] at this
        exact this
      have hpf : parseFn bs = made (E : Int) (D.map piR) := by
        unfold parseFn
        rw [if_pos ⟨by rw [HL.out]; exact hs, by rw [← hall]; exact HRD.out.all⟩, ← hall, HDN.out, HE.out]
      rw [hr.out] at hpf
      have hlen : (D.map piR).length = j := by rw [List.length_map]; exact HDN.out
      have HF := isFnI_tab (E : Int) V (D.map piR) j c wr hlen (Lib.hid (HS2.out.ints (i := 0) rfl))
      clear hall
      cases hfn : isFn (E : Int) (D.map piR)
      · obtain ⟨rfl, rfl, rfl⟩ : rn = 0 ∧ rx = [] ∧ rb = false := by simpa [made, hfn] using hpf
        rw [hfn] at HF
        have HG := Lib.hid HF
        clear hfn HF hpf hlen
        go_wp2_with fail
        refine HG.out.mono ?_
        rintro e w2 ⟨rfl, hb⟩
        have hS2 := HS2.out.below hb
        clear r10 r11 rf0 rf1 f10 f11 ff1 hb
        obtain ⟨b0, -⟩ := hS2.box (i := 1) rfl
        have b00 := b0 0 _ rfl
        have b01 := b0 1 _ rfl
        obtain ⟨r1, rf⟩ := hS2.box (i := 3) rfl
        have r10 := r1 0 _ rfl
        have r11 := r1 1 _ rfl
        have rf0 := rf 0
        have rf1 := rf 1
        clear b0 r1 rf
        have HS3 := Lib.hid hS2
        clear hS2
        go_wp2
        have hZ := (HS3.out.store (i := 3) rfl 0 (.int .i64 0)).store (i := 3) rfl 1 (.slice none 0 0)
        exact bodyPost_ret (v := .tuple #[.agg #[.int .i64 0, .slice none 0 0], .bool false]) (by simp [results, Tryz.results12, go_sem, r10, r11, rf0, rf1]) rfl ⟨none, 0, rfl, Own.nil _ _, hZ.base⟩
      · obtain ⟨rfl, rfl, rfl⟩ : rn = (E : Int) ∧ rx = D.map piR ∧ rb = true := by simpa [made, hfn] using hpf
        rw [hfn] at HF
        have HG := Lib.hid HF
        have HLN := Lib.hid hlen
        clear hfn HF hpf hlen
        go_wp2_with fail
        refine HG.out.mono ?_
        rintro e w2 ⟨rfl, hb⟩
        have hS2 := HS2.out.below hb
        clear r10 r11 rf0 rf1 f10 f11 ff1 hb
        obtain ⟨b0, -⟩ := hS2.box (i := 1) rfl
        have b00 := b0 0 _ rfl
        have b01 := b0 1 _ rfl
        obtain ⟨r1, rf⟩ := hS2.box (i := 3) rfl
        have r10 := r1 0 _ rfl
        have r11 := r1 1 _ rfl
        have rf0 := rf 0
        have rf1 := rf 1
        clear b0 r1 rf
        have HS3 := Lib.hid hS2
        clear hS2
        go_wp2
        have hZ := (HS3.out.store (i := 3) rfl 0 (.int .i64 E)).store (i := 3) rfl 1 (.slice V j c)
        exact bodyPost_ret (v := .tuple #[.agg #[.int .i64 E, .slice V j c], .bool true]) (by simp [results, Tryz.results12, go_sem, r10, r11, rf0, rf1, b00, b01]) rfl ⟨V, c, by rw [HLN.out], by rw [HLN.out]; exact hZ.ownI (i := 0) rfl, hZ.base⟩

theorem psI_any (s : ByteArray) (w : World) (hs : s.size ≤ 1048576) (ht : Hid (Tab w)) (hml : Hid (MaxLenAt w)) : Calls Tryz.prog 12 #[.string s] w (RetFB w (parseFn s.data.toList).1 (parseFn s.data.toList).2.1 (parseFn s.data.toList).2.2) := by
  by_cases h : s.size ≤ 200
  · exact psI_main s w h ht hml _ _ _ (Lib.hid rfl)
  · rw [parse_long (by have : s.data.toList.length = s.size := rfl
                       omega)]
    exact psI_long s w (by omega) hs

end Go.Proofs.YtielfnjkfceliaaGreatDoor.C

namespace Go.Proofs.YtielfnjkfceliaaGreatDoor.M
open Go.Lib (itoa join joinTail)
set_option linter.unusedVariables false

/-- Submodular: no set shows a violation. -/
theorem fs_all {α : Type} {f : Nat → Option α} : ∀ (c lo : Nat), firstSome f c lo = none → ∀ i, lo ≤ i → i < lo + c → f i = none
  | 0, lo, _, i, h1, h2 => absurd h2 (by omega)
  | c + 1, lo, h, i, h1, h2 => by
    rw [firstSome] at h
    cases hf : f lo with
    | some v => rw [hf] at h; cases h
    | none =>
      rw [hf] at h
      by_cases e : lo = i
      · subst e; exact hf
      · exact fs_all c (lo + 1) h i (by omega) (by omega)
theorem sub_iff {n : Nat} {xs : List Int} : isSub (n : Int) xs = true ↔ isFn (n : Int) xs = true ∧ ∀ s i k, s < xs.length → i < n → k < n → i < k → bad xs s i k = false := by
  unfold isSub
  constructor
  · intro h
    simp only [Bool.and_eq_true, Bool.not_eq_true'] at h
    obtain ⟨hf, hv⟩ := h
    refine ⟨hf, fun s i k hs hi hk hik => ?_⟩
    unfold viol at hv
    rw [if_pos hf, Int.toNat_natCast] at hv
    have h1 : violS n xs = none := by
      cases h : violS n xs with
      | none => rfl
      | some l => rw [h] at hv; cases hv
    have h2 := fs_all _ _ h1 s (by omega) (by omega)
    have h3 := fs_all _ _ h2 i (by omega) (by omega)
    have h4 := fs_all _ _ h3 k (by omega) (by omega)
    cases hb : bad xs s i k
    · rfl
    · rw [hb] at h4; cases h4
  · rintro ⟨hf, h⟩
    rw [hf, viol_none (n := n) (xs := xs) fun s hs => violI_none fun i hi => violK_none fun k hik hk => h s i k hs hi hk hik]
    rfl
theorem bad_false {n : Nat} {xs : List Int} {s i k : Nat} (h : bad xs s i k = false) (h1 : s.testBit i = false) (h2 : s.testBit k = false) : xs.getD (s ||| 2 ^ i ||| 2 ^ k) 0 + xs.getD s 0 ≤ xs.getD (s ||| 2 ^ i) 0 + xs.getD (s ||| 2 ^ k) 0 := by
  unfold bad at h
  rw [h1, h2] at h
  simpa using h
/-- The sum of two submodular functions is submodular. -/
theorem add_sub {n m : Int} {xs ys : List Int} (h1 : isSub n xs = true) (h2 : isSub m ys = true) (h3 : (addFn n xs m ys).2.2 = true) : isSub (addFn n xs m ys).1 (addFn n xs m ys).2.1 = true := by
  unfold addFn at h3 ⊢
  split at h3
  · rename_i hh
    rw [if_pos hh]
    obtain ⟨hf, hg, rfl⟩ := hh
    unfold made at h3 ⊢
    split at h3
    · rename_i hm
      rw [if_pos hm]
      obtain ⟨N, rfl⟩ := Int.eq_ofNat_of_zero_le (isFn_yes hf).1
      obtain ⟨_, _, hl, _⟩ := isFn_yes hf
      obtain ⟨_, _, hl2, _⟩ := isFn_yes hg
      rw [Int.toNat_natCast] at hl hl2
      refine sub_iff.2 ⟨hm, fun s i k hs hi hk hik => ?_⟩
      rw [tab_length] at hs
      have a1 := (sub_iff.1 h1).2 s i k hs hi hk hik
      have a2 := (sub_iff.1 h2).2 s i k (by omega) hi hk hik
      have hsn : s < 2 ^ N := by omega
      have hin : 2 ^ i < 2 ^ N := Nat.pow_lt_pow_right (by decide) hi
      have hkn : 2 ^ k < 2 ^ N := Nat.pow_lt_pow_right (by decide) hk
      have b1 := Nat.or_lt_two_pow hsn hin
      have b2 := Nat.or_lt_two_pow hsn hkn
      have b3 := Nat.or_lt_two_pow b1 hkn
      rw [← hl] at b1 b2 b3
      unfold bad
      rw [tab_at _ hs, tab_at _ b1, tab_at _ b2, tab_at _ b3]
      cases t1 : s.testBit i
      · cases t2 : s.testBit k
        · have c1 := bad_false (n := N) a1 t1 t2
          have c2 := bad_false (n := N) a2 t1 t2
          simp only [Bool.not_false, Bool.true_and, decide_eq_false_iff_not]
          omega
        · simp
      · simp
    · cases h3
  · cases h3

theorem itoa_plain : ∀ k : Nat, k < 2001 → (44 : UInt8) ∉ itoa ((k : Int) - 1000) ∧ piB (itoa ((k : Int) - 1000)) = true ∧ piR (itoa ((k : Int) - 1000)) = (k : Int) - 1000 := by decide +kernel
theorem itoa_at {x : Int} (h1 : -1000 ≤ x) (h2 : x ≤ 1000) : (44 : UInt8) ∉ itoa x ∧ piB (itoa x) = true ∧ piR (itoa x) = x := by
  have := itoa_plain (x + 1000).toNat (by omega)
  rw [show (((x + 1000).toNat : Nat) : Int) - 1000 = x by omega] at this
  exact this
theorem cut_tail : ∀ (r : List (List UInt8)) (acc x : List UInt8), (44 : UInt8) ∉ x → (∀ y ∈ r, (44 : UInt8) ∉ y) → cutC acc (x ++ joinTail [44] r) = (acc ++ x) :: r
  | [], acc, x, hx, _ => by
    rw [show joinTail [44] [] = [] from rfl, List.append_nil, cutC_no _ hx]
  | y :: r, acc, x, hx, hr => by
    rw [show joinTail [44] (y :: r) = 44 :: (y ++ joinTail [44] r) from rfl, cutC_at _ _ _ hx, cut_tail r [] y (hr y (by simp)) fun z hz => hr z (by simp [hz]), List.nil_append]
theorem parts_join {l : List (List UInt8)} (h0 : l ≠ []) (h : ∀ y ∈ l, (44 : UInt8) ∉ y) : parts (join l [44]) = l := by
  cases l with
  | nil => exact absurd rfl h0
  | cons x r =>
    rw [Go.Lib.join_cons]
    unfold parts
    rw [cut_tail r [] x (h x (by simp)) fun z hz => h z (by simp [hz]), List.nil_append]
/-- The text of a function is read back. -/
theorem parse_fmt {n : Int} {xs : List Int} (hf : isFn n xs = true) : parseFn (fmtFn n xs) = (n, xs, true) := by
  obtain ⟨h0, h5, hl, hv⟩ := isFn_yes hf
  have hall : ∀ x ∈ xs, -1000 ≤ x ∧ x ≤ 1000 := fun x hx => by
    obtain ⟨k, hk, rfl⟩ := List.mem_iff_getElem.1 hx
    have := hv k hk
    rw [List.getD_eq_getElem?_getD, List.getElem?_eq_getElem hk] at this
    exact this
  have hlen := txt_len hv xs.length (Nat.le_refl _)
  have h32 := isFn_len hf
  have hp : parts (fmtFn n xs) = xs.map itoa := by
    unfold fmtFn
    rw [if_pos hf]
    unfold txt
    rw [List.take_length]
    exact parts_join (by intro e; have := congrArg List.length e; simp at this; subst this; simp at h32) fun y hy => by
      obtain ⟨x, hx, rfl⟩ := List.mem_map.1 hy
      exact (itoa_at (hall x hx).1 (hall x hx).2).1
  have hm : (xs.map itoa).map piR = xs := by
    rw [List.map_map]
    conv => rhs; rw [← List.map_id xs]
    exact List.map_congr_left fun x hx => (itoa_at (hall x hx).1 (hall x hx).2).2.2
  have e := parse_made (l := fmtFn n xs) (by unfold fmtFn; rw [if_pos hf]; omega) (by
    rw [hp, List.all_eq_true]
    intro y hy
    obtain ⟨x, hx, rfl⟩ := List.mem_map.1 hy
    exact (itoa_at (hall x hx).1 (hall x hx).2).2.1) (n := n.toNat) (by rw [hp, List.length_map]; exact hl)
  rw [e, hp, hm, Int.toNat_of_nonneg h0]
  unfold made
  rw [if_pos hf]
theorem parse_nil : parseFn [] = (0, [], false) := by decide +kernel
/-- A gain is a difference of values. -/
theorem gain_val {n : Int} {xs : List Int} {s e : Int} (h : -9999 < gainOf n xs s e) : 0 ≤ s ∧ s < 32 ∧ 0 ≤ e ∧ e < 5 ∧ gainOf n xs s e = valueOf n xs ((withE s e : Nat) : Int) - valueOf n xs s := by
  unfold gainOf at h ⊢
  split at h
  · rename_i hh
    rw [if_pos hh]
    obtain ⟨hf, hs, e0, en⟩ := hh
    obtain ⟨h0, h5, hl, _⟩ := isFn_yes hf
    obtain ⟨s0, s1⟩ := isSet_yes hs
    have hp := p2_le h0 h5
    have hw := withE_lt h0 hs e0 en
    have hs2 : isSet n ((withE s e : Nat) : Int) = true := by
      simp only [isSet, Bool.and_eq_true, decide_eq_true_eq]
      omega
    refine ⟨s0, by omega, e0, by omega, ?_⟩
    unfold valueOf
    rw [if_pos ⟨hf, hs2⟩, if_pos ⟨hf, hs⟩, Int.toNat_natCast]
  · omega
/-- A lowered function has the value 0 of nothing. -/
theorem lower_ground {n : Int} {xs : List Int} (h : (lowerFn n xs).2.2 = true) : isGround (lowerFn n xs).1 (lowerFn n xs).2.1 = true := by
  unfold lowerFn at h ⊢
  split at h
  · rename_i hf
    rw [if_pos hf]
    unfold made at h ⊢
    split at h
    · rename_i hm
      rw [if_pos hm]
      unfold isGround
      rw [hm, tab_at _ (by have := isFn_len hf; omega)]
      simp
    · cases h
  · cases h

end Go.Proofs.YtielfnjkfceliaaGreatDoor.M
