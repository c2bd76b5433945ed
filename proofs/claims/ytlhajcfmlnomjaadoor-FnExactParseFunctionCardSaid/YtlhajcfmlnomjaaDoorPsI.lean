/-
  The contract of impl.ParseFunction.
-/
import Derived.Test.YtlhajcfmlnomjaaDoorPs
import Derived.Test.YtlhajcfmlnomjaaDoorIsFnI
namespace Go.Proofs.YtlhajcfmlnomjaaDoor.C
open Go.RowKit K M
set_option linter.unusedVariables false
set_option linter.unusedSimpArgs false

/-- The library's own number: whatever it holds. -/
def MaxLenAt (w : World) : Prop := ∃ m : Int, w.cell? ⟨2, 0, none⟩ = some (.int .i64 m)
theorem maxLen_on {w w' : World} (h : MaxLenAt w) (hb : Below w.heap.size w w') : MaxLenAt w' := by
  obtain ⟨m, hm⟩ := h
  exact ⟨m, (hb.cell (World.block_lt_of_cell? w _ hm)).trans hm⟩

theorem psI_long (s : ByteArray) (w : World) (hs : 200 < s.size) (hs2 : s.size ≤ 1048576) :
    Calls Tryd.prog 12 #[.string s] w (RetFB w 0 [] false) := by
  have HW := Lib.hid (St.start w)
  have hd : (200 : Int) < (s.size : Int) := by omega
  go_enter Tryd.func12, Tryd.ntmps12
  go_wp2
  exact bodyPost_ret (v := .tuple #[.agg #[.int .i64 0, .slice none 0 0], .bool false]) (by simp [results, Tryd.results12, go_sem]) rfl ⟨none, 0, rfl, Own.nil _ _, (HW.out.alloc _ _).base⟩

/-- The pieces that the library's Split lays. -/
theorem pieces (s : ByteArray) : ∃ P : List ByteArray, Lib.splitB ⟨#[44]⟩ 0 (Lib.countB s ⟨#[44]⟩) s = P ∧ P.map (·.data.toList) = parts s.data.toList ∧ Lib.countB s ⟨#[44]⟩ + 1 = P.length := by
  obtain ⟨h1, h2⟩ := split_parts _ s.data.toList (Nat.le_refl _)
  have e : (Lib.splitB ⟨#[44]⟩ 0 (Lib.countB s ⟨#[44]⟩) s).map (·.data.toList) = parts s.data.toList := (Lib.splitB_data _ _ _ _).trans h1
  exact ⟨_, rfl, e, by have := congrArg List.length e; rw [List.length_map] at this; rw [this]; exact h2⟩

theorem split_any (s : ByteArray) (P : List ByteArray) (m : Nat) (w : World) (hs : s.size ≤ 200) (h : MaxLenAt w) (hP : Lib.splitB ⟨#[44]⟩ 0 (Lib.countB s ⟨#[44]⟩) s = P) (hm : Lib.countB s ⟨#[44]⟩ + 1 = m) :
    Calls Tryd.prog 29 #[.string s, .string ⟨#[44]⟩] w fun e w' => e = .returned (.slice (some ⟨w.heap.size, 0, none⟩) m m) ∧ w.alloc (.cells ⟨P.map Value.string⟩ 9) = w' := by
  obtain ⟨k, hk⟩ := h
  refine (Tryd.strings_Split s ⟨#[44]⟩ k w (by omega) hk (by decide)).mono fun e w' ⟨he, hw⟩ => ⟨?_, ?_⟩
  · rw [he, hm]
  · rw [hw, hP]

theorem len_any (m : Nat) (w : World) (h0 : m ≠ 0) (hm : m < 256) :
    Calls Tryd.prog 30 #[.int .u64 m] w fun e w' => e = .returned (.int .i64 ((Nat.log2 m : Nat) + 1 : Int)) ∧ w = w' := by
  refine (Tryd.bits_Len (m : Int) w (by omega) (by omega)).mono fun e w' ⟨he, hw⟩ => ⟨?_, hw.symm⟩
  rw [he, Int.toNat_natCast, bitLen_log m hm h0]
  rfl

theorem ipi_acc (s : ByteArray) (acc : List UInt8) (he : s.data.toList = acc) (w : World) (h : s.size ≤ 1048576) (ht : Hid (Tab w)) :
    Calls Tryd.prog 31 #[.string s] w (RetV w (.tuple #[.int .i64 (piR acc), .bool (piB acc)])) := by
  subst he
  exact ipi_any s w h ht

set_option maxRecDepth 100000 in
set_option maxHeartbeats 6400000 in
theorem psI_main (s : ByteArray) (w : World) (hs : s.size ≤ 200) (ht : Hid (Tab w)) (hml : Hid (MaxLenAt w)) (rn : Int) (rx : List Int) (rb : Bool) (hr : Hid (parseFn s.data.toList = (rn, rx, rb))) :
    Calls Tryd.prog 12 #[.string s] w (RetFB w rn rx rb) := by
  have HW := Lib.hid (St.start w)
  have hd : (s.size : Int) ≤ 200 := by omega
  obtain ⟨P, hP, hPm, hPc⟩ := pieces s
  obtain ⟨bs, hbs⟩ : ∃ bs, s.data.toList = bs := ⟨_, rfl⟩
  have hsz : bs.length = s.size := by rw [← hbs]; rfl
  rw [hbs] at hr hPm
  have hplen := parts_len bs
  have hpl : P.length = (parts bs).length := by rw [← hPm, List.length_map]
  obtain ⟨m, hm⟩ : ∃ m, P.length = m := ⟨_, rfl⟩
  rw [hm] at hPc hpl
  have hm0 : m ≠ 0 := by omega
  have hm1 : m ≤ 201 := by omega
  have hlong : ∀ x ∈ P, x.size ≤ 1048576 := fun x hx => by
    have h1 : x.data.toList ∈ parts bs := by rw [← hPm]; exact List.mem_map_of_mem hx
    have h2 := cutC_each [] bs _ h1
    have h3 : x.data.toList.length = x.size := rfl
    simp only [List.length_nil] at h2
    omega
  have HP := Lib.hid hP
  have HPM := Lib.hid hPm
  have HPC := Lib.hid hPc
  have HPL := Lib.hid hpl
  have HM := Lib.hid hm
  have HL := Lib.hid hsz
  have HLO := Lib.hid hlong
  clear hP hPm hPc hbs hsz hplen hpl hm hlong
  obtain ⟨i0, hi, hz0, hz1, hz2⟩ := info_parts info_int
  have hw64 : IntKind.u64.wrap (m : Int) = (m : Int) := by rw [IntKind.wrap_u64]; omega
  go_enter Tryd.func12, Tryd.ntmps12
  go_wp2_with fail
  refine St.use (w0 := w) (by exact HW.out.alloc _ _) ?_
  intro hS
  refine (split_any s P m _ hs (maxLen_on hml.out (hS.base.mono (Nat.le_refl _))) HP.out HPC.out).mono ?_
  rintro e w1 ⟨rfl, rfl⟩
  have HS1 := Lib.hid (hS.alloc (P.map Value.string) 9)
  clear hS
  go_wp2_with fail
  refine (len_any m _ hm0 (by omega)).mono ?_
  rintro e w1 ⟨rfl, rfl⟩
  obtain ⟨E, hE⟩ : ∃ E, Nat.log2 m = E := ⟨_, rfl⟩
  rw [hE]
  have HE := Lib.hid hE
  have hE8 : E ≤ 8 := by
    rw [← hE]
    have := (Nat.log2_lt hm0 (k := 8)).2 (by omega)
    omega
  clear hE
  go_wp2
  have HSA := Lib.hid (show St w _ [il (.slice none 0 0) 0 [], bx (w.heap.size + 1 + 1) 27 [.int .i64 E, .slice none 0 0], bx (w.heap.size + 1) 9 (P.map Value.string), bx w.heap.size 27 [.int .i64 0, .slice none 0 0]] from by
    have := (HS1.out.alloc [.int .i64 E, .slice none 0 0] 27).nil
    simpa only [World.size_alloc] using this)
  go_loopw [7, 8, 9, 24] (fun _ _ _ i wr => ∃ (j : Nat) (D : List (List UInt8)) (V : Option Addr) (c : Nat), i = .int .i64 j ∧ j ≤ m ∧ D.length = j ∧ Read bs D ((parts bs).drop j) ∧ St w wr [il (.slice V j c) j (D.map piR), bx (w.heap.size + 1 + 1) 27 [.int .i64 E, .slice V j c], bx (w.heap.size + 1) 9 (P.map Value.string), bx w.heap.size 27 [.int .i64 0, .slice none 0 0]]) (fun _ _ _ i _ => m - (intOf i).toNat)
  case atStart => exact ⟨0, [], none, 0, rfl, by omega, rfl, ⟨by simp, rfl⟩, HSA.out⟩
  case round =>
    obtain ⟨j, D, V, c, rfl, hj, hDn, hread, hS⟩ := hrel
    have HRD := Lib.hid hread
    have HDN := Lib.hid hDn
    have HS2 := Lib.hid hS
    clear hread hDn hS
    obtain ⟨r1, rf⟩ := HS2.out.box (i := 3) rfl
    have r10 := r1 0 _ rfl
    have r11 := r1 1 _ rfl
    have rf0 := rf 0
    have rf1 := rf 1
    obtain ⟨f1, ff⟩ := HS2.out.box (i := 1) rfl
    have f10 := f1 0 _ rfl
    have f11 := f1 1 _ rfl
    have ff1 := ff 1
    clear r1 rf f1 ff
    by_cases hlt : j < m
    · have hj0 : (0 : Int) ≤ (j : Int) := by omega
      have hjn : (j : Int) < (m : Int) := by omega
      have hjP : j < P.length := by rw [HM.out]; exact hlt
      have hjb : j < (parts bs).length := by rw [← HPL.out]; exact hlt
      have hpc := (HS2.out.box (i := 2) rfl).1 j (.string P[j]) (by simp [hjP])
      have hacc : P[j].data.toList = (parts bs)[j] := by
        have := HPM.out
        simp only [← this, List.getElem_map]
      have hdrop : (parts bs).drop j = (parts bs)[j] :: (parts bs).drop (j + 1) := List.drop_eq_getElem_cons hjb
      have hsz := HLO.out P[j] (List.getElem_mem hjP)
      have hipi := fun W => ipi_acc P[j] _ hacc W hsz
      generalize (parts bs)[j] = acc at hdrop hipi
      generalize P[j] = S at hpc hipi hsz
      have HPI := Lib.hid hipi
      have HDR := Lib.hid hdrop
      have HTB := Lib.hid (tab_on ht.out (HS2.out.base.mono (Nat.le_refl _)))
      clear hacc hdrop hipi hjP hjb
      cases hpi : piB acc
      · have hnone := parse_bad (l := bs) (D := D) (R := (parts bs).drop (j + 1)) (acc := acc) (by rw [← HDR.out]; exact HRD.out.eq) hpi
        rw [hr.out] at hnone
        obtain ⟨rfl, rfl, rfl⟩ : rn = 0 ∧ rx = [] ∧ rb = false := by simpa using hnone
        have HC := HPI.out
        rw [hpi] at HC
        have HC := Lib.hid HC
        clear hpi hnone
        go_wp2_with fail
        refine (HC.out _ HTB).mono ?_
        rintro e w1 ⟨rfl, hb⟩
        have hS1 := HS2.out.below hb
        clear r10 r11 rf0 rf1 f10 f11 ff1 hpc
        obtain ⟨r1, rf⟩ := hS1.box (i := 3) rfl
        have r10 := r1 0 _ rfl
        have r11 := r1 1 _ rfl
        have rf0 := rf 0
        have rf1 := rf 1
        have HS3 := Lib.hid hS1
        clear r1 rf hb hS1
        go_wp2
        have hZ := (HS3.out.store (i := 3) rfl 0 (.int .i64 0)).store (i := 3) rfl 1 (.slice none 0 0)
        exact bodyPost_ret (v := .tuple #[.agg #[.int .i64 0, .slice none 0 0], .bool false]) (by simp [results, Tryd.results12, go_sem, r10, r11, rf0, rf1]) rfl ⟨none, 0, rfl, Own.nil _ _, hZ.base⟩
      · have HC := HPI.out
        rw [hpi] at HC
        have HPB := Lib.hid hpi
        clear hpi
        generalize hpr : piR acc = x at HC
        have HPR := Lib.hid hpr
        have HC := Lib.hid HC
        clear hpr
        go_wp2_with fail
        refine (HC.out _ HTB).mono ?_
        rintro e w1 ⟨rfl, hb⟩
        have hS1 := HS2.out.below hb
        clear r10 r11 rf0 rf1 f10 f11 ff1 hpc
        obtain ⟨f1, ff⟩ := hS1.box (i := 1) rfl
        have f10 := f1 0 _ rfl
        have f11 := f1 1 _ rfl
        have ff1 := ff 1
        have fl := (hS1.lt (i := 1) rfl).2
        have HS3 := Lib.hid hS1
        clear f1 ff hb hS1
        go_wp2_with (at_builtin; refine wpList_app1 rfl (.tmp 37) (.tmp 39) 22 rfl x Tryd.underlying22 hi hz0 hz1 hz2 ((HS3.out.alloc _ _).drop 0) (i := 0) rfl rfl rfl (by simp) (by omega) ?_; intro V' c' w2 hS2; have e1 := (hS2.box (i := 1) rfl).1 1 _ rfl; have e2 := (hS2.box (i := 1) rfl).2 1; have HS4 := Lib.hid hS2; clear hS2)
        have HS5 := Lib.hid (HS4.out.store (i := 1) rfl 1 (.slice V' (j + 1) c'))
        go_roundw
        case rel => exact ⟨j + 1, D ++ [acc], V', c', by go_num, by omega, by rw [List.length_append, HDN.out]; rfl, Read.step (by rw [← HDR.out]; exact HRD.out) HPB.out, by rw [List.map_append, List.map_cons, List.map_nil, HPR.out]; exact HS5.out⟩
        case measure => simp [intOf] <;> omega
    · obtain rfl : j = m := by omega
      have hjn : ¬ (j : Int) < (j : Int) := by omega
      have hall : D = parts bs := by
        have := HRD.out.eq
        rw [List.drop_of_length_le (by rw [← HPL.out]; exact Nat.le_refl _), List.append_nil] at this
        exact this
      have hpf : parseFn bs = made (E : Int) (D.map piR) := by
        unfold parseFn
        rw [if_pos ⟨by rw [HL.out]; exact hs, by rw [← hall]; exact HRD.out.all⟩, ← hall, HDN.out, HE.out]
      rw [hr.out] at hpf
      have hlen : (D.map piR).length = j := by rw [List.length_map]; exact HDN.out
      have HF := isFnI_tab (E : Int) V (D.map piR) j c wr hlen (Lib.hid (HS2.out.ints (i := 0) rfl))
      clear hall
      cases hfn : isFn (E : Int) (D.map piR)
      · obtain ⟨rfl, rfl, rfl⟩ : rn = 0 ∧ rx = [] ∧ rb = false := by simpa [made, hfn] using hpf
        rw [hfn] at HF
        have HG := Lib.hid HF
        clear hfn HF hpf hlen
        go_wp2_with fail
        refine HG.out.mono ?_
        rintro e w2 ⟨rfl, hb⟩
        have hS2 := HS2.out.below hb
        clear r10 r11 rf0 rf1 f10 f11 ff1 hb
        obtain ⟨b0, -⟩ := hS2.box (i := 1) rfl
        have b00 := b0 0 _ rfl
        have b01 := b0 1 _ rfl
        obtain ⟨r1, rf⟩ := hS2.box (i := 3) rfl
        have r10 := r1 0 _ rfl
        have r11 := r1 1 _ rfl
        have rf0 := rf 0
        have rf1 := rf 1
        clear b0 r1 rf
        have HS3 := Lib.hid hS2
        clear hS2
        go_wp2
        have hZ := (HS3.out.store (i := 3) rfl 0 (.int .i64 0)).store (i := 3) rfl 1 (.slice none 0 0)
        exact bodyPost_ret (v := .tuple #[.agg #[.int .i64 0, .slice none 0 0], .bool false]) (by simp [results, Tryd.results12, go_sem, r10, r11, rf0, rf1]) rfl ⟨none, 0, rfl, Own.nil _ _, hZ.base⟩
      · obtain ⟨rfl, rfl, rfl⟩ : rn = (E : Int) ∧ rx = D.map piR ∧ rb = true := by simpa [made, hfn] using hpf
        rw [hfn] at HF
        have HG := Lib.hid HF
        have HLN := Lib.hid hlen
        clear hfn HF hpf hlen
        go_wp2_with fail
        refine HG.out.mono ?_
        rintro e w2 ⟨rfl, hb⟩
        have hS2 := HS2.out.below hb
        clear r10 r11 rf0 rf1 f10 f11 ff1 hb
        obtain ⟨b0, -⟩ := hS2.box (i := 1) rfl
        have b00 := b0 0 _ rfl
        have b01 := b0 1 _ rfl
        obtain ⟨r1, rf⟩ := hS2.box (i := 3) rfl
        have r10 := r1 0 _ rfl
        have r11 := r1 1 _ rfl
        have rf0 := rf 0
        have rf1 := rf 1
        clear b0 r1 rf
        have HS3 := Lib.hid hS2
        clear hS2
        go_wp2
        have hZ := (HS3.out.store (i := 3) rfl 0 (.int .i64 E)).store (i := 3) rfl 1 (.slice V j c)
        exact bodyPost_ret (v := .tuple #[.agg #[.int .i64 E, .slice V j c], .bool true]) (by simp [results, Tryd.results12, go_sem, r10, r11, rf0, rf1, b00, b01]) rfl ⟨V, c, by rw [HLN.out], by rw [HLN.out]; exact hZ.ownI (i := 0) rfl, hZ.base⟩

theorem psI_any (s : ByteArray) (w : World) (hs : s.size ≤ 1048576) (ht : Hid (Tab w)) (hml : Hid (MaxLenAt w)) : Calls Tryd.prog 12 #[.string s] w (RetFB w (parseFn s.data.toList).1 (parseFn s.data.toList).2.1 (parseFn s.data.toList).2.2) := by
  by_cases h : s.size ≤ 200
  · exact psI_main s w h ht hml _ _ _ (Lib.hid rfl)
  · rw [parse_long (by have : s.data.toList.length = s.size := rfl
                       omega)]
    exact psI_long s w (by omega) hs

end Go.Proofs.YtlhajcfmlnomjaaDoor.C
