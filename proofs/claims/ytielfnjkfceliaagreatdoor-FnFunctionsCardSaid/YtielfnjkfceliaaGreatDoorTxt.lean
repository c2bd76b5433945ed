/-
  The contracts of FormatFunction, spec and impl.
-/
import Derived.Test.YtielfnjkfceliaaGreatDoorTxtM
import Derived.Test.YtielfnjkfceliaaGreatDoorIsFnI
import Derived.Test.YtielfnjkfceliaaGreatDoorFmt
import Derived.Test.YtielfnjkfceliaaGreatDoorHeld
namespace Go.Proofs.YtielfnjkfceliaaGreatDoor.C
open Go.RowKit K M
open Go.Lib (itoa)
set_option linter.unusedVariables false
set_option linter.unusedSimpArgs false

theorem fmtS_bad (n : Int) (A : Option Addr) (xs : List Int) (cap : Nat) (w : World) (h : Hid (Ints w w.heap.size A xs)) (hf : isFn n xs = false) :
    Calls Tryz.prog 13 #[.agg #[.int .i64 n, .slice A xs.length cap]] w (RetV w (.string ⟨([] : List UInt8).toArray⟩)) := by
  have HW := Lib.hid (St.start w)
  have HF := Lib.hid hf
  clear hf
  go_enter Tryz.func13, Tryz.ntmps13
  go_wp2
  go_loopw [3, 4] (fun s i wr => i = .int .i64 ((0 : Nat) : Int) ∧ s = .string ⟨([] : List UInt8).toArray⟩ ∧ St w wr [bx w.heap.size 26 [.int .i64 n, .slice A xs.length cap]]) (fun _ _ _ => 0)
  case atStart => exact ⟨rfl, rfl, HW.out.alloc _ _⟩
  case round =>
    obtain ⟨rfl, rfl, hS⟩ := hrel
    have b0 := hS.box (i := 0) rfl
    have b00 := b0.1 0 _ rfl
    have b01 := b0.1 1 _ rfl
    have HS := Lib.hid hS
    clear b0
    go_wp2_with fail
    refine (isFnS_no n A xs cap _ (Lib.hid ((h.out.below hS.base).mono hS.size)) HF.out).mono ?_
    rintro e w1 ⟨rfl, hb⟩
    have HS1 := Lib.hid (HS.out.below hb)
    clear hb hS
    go_wp2
    go_ret
    exact ⟨rfl, HS1.out.base⟩

set_option maxRecDepth 100000 in
set_option maxHeartbeats 1600000 in
theorem fmtS_good (n : Int) (A : Option Addr) (xs : List Int) (cap : Nat) (w : World) (h : Hid (Ints w w.heap.size A xs)) (hf : isFn n xs = true) :
    Calls Tryz.prog 13 #[.agg #[.int .i64 n, .slice A xs.length cap]] w (RetV w (.string ⟨(txt xs xs.length).toArray⟩)) := by
  have HW := Lib.hid (St.start w)
  obtain ⟨_, _, _, hv⟩ := isFn_yes hf
  have hl := (isFn_len hf).2
  have HF := Lib.hid hf
  have HV := Lib.hid hv
  have HT := Lib.hid (txt_len hv)
  obtain ⟨m, hxm⟩ : ∃ m, xs.length = m := ⟨_, rfl⟩
  have h' := Lib.hid (show ∀ W, Ints W W.heap.size A xs → Calls Tryz.prog 15 #[.agg #[.int .i64 n, .slice A m cap]] W (RetV W (.bool true)) from fun W hW => by rw [← hxm]; exact isFnS_yes n A xs cap W hW hf)
  rw [hxm] at hl ⊢
  have HX := Lib.hid hxm
  clear hf hv hxm
  go_enter Tryz.func13, Tryz.ntmps13
  go_wp2
  go_loopw [3, 4] (fun s i wr => ∃ k : Nat, i = .int .i64 k ∧ k ≤ m ∧ s = .string ⟨(txt xs k).toArray⟩ ∧ St w wr [bx w.heap.size 26 [.int .i64 n, .slice A m cap]]) (fun _ i _ => m - (intOf i).toNat)
  case atStart => exact ⟨0, rfl, Nat.zero_le _, by rw [txt_zero], HW.out.alloc _ _⟩
  case round =>
    obtain ⟨k, rfl, hk, rfl, hS⟩ := hrel
    have b0 := hS.box (i := 0) rfl
    have b00 := b0.1 0 _ rfl
    have b01 := b0.1 1 _ rfl
    have HS := Lib.hid hS
    clear b0
    have hlen := HT.out k (by rw [HX.out]; exact hk)
    go_wp2_with fail
    refine (h'.out _ ((h.out.below hS.base).mono hS.size)).mono ?_
    rintro e w1 ⟨rfl, hb⟩
    have hS1 := HS.out.below hb
    clear b00 b01
    have b1 := hS1.box (i := 0) rfl
    have b10 := b1.1 0 _ rfl
    have b11 := b1.1 1 _ rfl
    have HS1 := Lib.hid hS1
    clear hb hS b1
    by_cases hlt : k < m
    · obtain ⟨b, off, rfl, hbl, hc⟩ := (h.out.below hS1.base).at_ (k := k) (by rw [HX.out]; exact hlt)
      obtain ⟨v1, v2⟩ := HV.out k (by rw [HX.out]; exact hlt)
      have hsucc := fun h0 => txt_succ xs k (by rw [HX.out]; exact hlt) h0
      have hone := txt_one xs
      clear hS1
      obtain ⟨x, hx⟩ : ∃ x, xs.getD k 0 = x := ⟨_, rfl⟩
      rw [hx] at hc v1 v2
      have HXK := Lib.hid hx
      have HSU := Lib.hid hsucc
      have HON := Lib.hid hone
      clear hx hsucc hone
      have hk0 : (0 : Int) ≤ (k : Int) := by omega
      have hkn : (k : Int) < (m : Int) := by omega
      have hit := itoa_le v1 v2
      have hcat : ¬ 9223372036854775807 < (txt xs k).length + 1 + (itoa x).length := by omega
      have hcat0 : ¬ 9223372036854775807 < (txt xs k).length + (itoa x).length := by omega
      by_cases h0 : 0 < k
      · have h0i : (0 : Int) < (k : Int) := by omega
        go_wp2_with fail
        refine (sfi_any x _ (by omega) (by omega)).mono ?_
        rintro e w2 ⟨rfl, hb⟩
        have HS2 := Lib.hid (HS1.out.below hb)
        clear hb
        go_wp2
        go_roundw
        case rel => exact ⟨k + 1, by go_num, by omega, by rw [HSU.out h0, HXK.out]; simp [ByteArray.ext_iff], HS2.out⟩
        case measure => simp [intOf]; omega
      · obtain rfl : k = 0 := by omega
        rw [Nat.add_zero] at hc
        go_wp2_with fail
        refine (sfi_any x _ (by omega) (by omega)).mono ?_
        rintro e w2 ⟨rfl, hb⟩
        have HS2 := Lib.hid (HS1.out.below hb)
        clear hb
        go_wp2
        go_roundw
        case rel => exact ⟨1, by simp, by omega, by rw [HON.out (by rw [HX.out]; omega), txt_zero, HXK.out]; simp [ByteArray.ext_iff], HS2.out⟩
        case measure => simp [intOf]; omega
    · obtain rfl : k = m := by omega
      clear hS1
      go_wp2
      go_ret
      exact ⟨rfl, HS1.out.base⟩

theorem fmtS_any (n : Int) (A : Option Addr) (xs : List Int) (cap : Nat) (w : World) (h : Hid (Ints w w.heap.size A xs)) :
    Calls Tryz.prog 13 #[.agg #[.int .i64 n, .slice A xs.length cap]] w (RetV w (.string ⟨(fmtFn n xs).toArray⟩)) := by
  cases hf : isFn n xs
  · simpa [fmtFn, hf] using fmtS_bad n A xs cap w h hf
  · simpa [fmtFn, hf] using fmtS_good n A xs cap w h hf

theorem info_str : (Tryz.prog.info? 9).map (fun i => (i.zero, i.size, i.bytes)) = some (some (.string ⟨#[]⟩), 1, 16) := by kernel_rfl

/-- A list of texts of the call's own. -/
def strs (l : List (List UInt8)) : List Value := l.map fun s => .string ⟨s.toArray⟩
theorem strs_length (l : List (List UInt8)) : (strs l).length = l.length := by simp [strs]
theorem strs_set (l : List (List UInt8)) (j : Nat) (s : List UInt8) : (strs l).set j (.string ⟨s.toArray⟩) = strs (l.set j s) := by simp [strs, List.map_set]
def sl (v : Value) (n : Nat) (l : List (List UInt8)) : Cel := ⟨9, 1, v, n, strs l⟩
theorem St.setS {w0 w : World} {L : List Cel} {i g c n : Nat} {l : List (List UInt8)} (h : St w0 w L) (hi : L[i]? = some (sl (.slice (some ⟨g, 0, none⟩) n c) n l)) (j : Nat) (s : List UInt8) : St w0 (w.setCell ⟨g, j, none⟩ (.string ⟨s.toArray⟩)) (L.set i (sl (.slice (some ⟨g, 0, none⟩) n c) n (l.set j s))) := by
  obtain ⟨h1, h2⟩ := (h.own hi).stored j (.string ⟨s.toArray⟩)
  rw [show (sl (.slice (some ⟨g, 0, none⟩) n c) n l).cs.set j (.string ⟨s.toArray⟩) = strs (l.set j s) from strs_set l j s] at h1
  exact h.mark hi h2 h1
theorem St.cellS {w0 w : World} {L : List Cel} {i g c n : Nat} {l : List (List UInt8)} (h : St w0 w L) (hi : L[i]? = some (sl (.slice (some ⟨g, 0, none⟩) n c) n l)) {j : Nat} (hj : j < n) : w.cell? ⟨g, j, none⟩ = some (.string ⟨(l.getD j []).toArray⟩) ∧ w.frozen? ⟨g, j, none⟩ = false := by
  have hl : l.length = n := by simpa [sl, strs] using (h.own hi).1
  refine ⟨?_, (h.own hi).frozenAt j⟩
  rw [(h.own hi).cellAt j (by simpa [sl] using hj)]
  simp [sl, strs, show j < l.length by omega]
theorem made_strs (n : Nat) : (madeCells (Value.string ⟨#[]⟩).cells (n * 1)).toList = strs (List.replicate n []) := by
  rw [Nat.mul_one]
  show (madeCells #[.string ⟨#[]⟩] n).toList = _
  rw [toList_madeCells_one]
  simp [strs]

theorem fmtI_bad (n : Int) (A : Option Addr) (xs : List Int) (cap : Nat) (w : World) (h : Hid (Ints w w.heap.size A xs)) (hf : isFn n xs = false) :
    Calls Tryz.prog 11 #[.agg #[.int .i64 n, .slice A xs.length cap]] w (RetV w (.string ⟨([] : List UInt8).toArray⟩)) := by
  have HW := Lib.hid (St.start w)
  have HF := Lib.hid hf
  clear hf
  go_enter Tryz.func11, Tryz.ntmps11
  go_wp2_with fail
  refine St.use (w0 := w) (by exact HW.out.alloc _ _) ?_
  intro hS
  refine (isFnI_no n A xs cap _ (Lib.hid ((h.out.below hS.base).mono hS.size)) HF.out).mono ?_
  rintro e w1 ⟨rfl, hb⟩
  have HS1 := Lib.hid (hS.below hb)
  clear hS hb
  go_wp2
  go_ret
  exact ⟨rfl, HS1.out.base⟩

theorem join_any (g m c : Nat) (l : List (List UInt8)) (w : World) (hl : l.length = m) (hc : ∀ j, j < m → w.cell? ⟨g, j, none⟩ = some (.string ⟨(l.getD j []).toArray⟩)) (hg : g < w.heap.size) (hm : m ≤ c) (hm2 : m ≤ 1000) (hlen : (Lib.join l [44]).length ≤ 1000) :
    Calls Tryz.prog 45 #[.slice (some ⟨g, 0, none⟩) m c, .string ⟨#[44]⟩] w (RetV w (.string ⟨(Lib.join l [44]).toArray⟩)) := by
  subst hl
  have hmap : (l.map fun s => (⟨s.toArray⟩ : ByteArray)).map (·.data.toList) = l := by
    rw [List.map_map]
    exact (List.map_congr_left (fun s _ => rfl)).trans (List.map_id l)
  have key := Tryz.strings_Join g 0 c (l.map fun s => (⟨s.toArray⟩ : ByteArray)) ⟨#[44]⟩ w (fun j x hx => by
    rw [List.getElem?_map] at hx
    have hj : j < l.length := by
      rcases Nat.lt_or_ge j l.length with h | h
      · exact h
      · rw [List.getElem?_eq_none h] at hx; cases hx
    rw [List.getElem?_eq_getElem hj, Option.map_some] at hx
    have := hc j hj
    rw [Nat.zero_add, this]
    simp only [Option.some.injEq] at hx
    subst hx
    simp [hj]) hg (by rw [List.length_map]; omega) (by rw [List.length_map]; exact hm) (by rw [hmap]; show (Lib.join l [44]).length ≤ _; omega)
  rw [hmap, List.length_map] at key
  exact key

/-- The first k of the texts are those of the values. -/
def Texts (xs : List Int) (k : Nat) (l : List (List UInt8)) : Prop := l.take k = (xs.take k).map itoa
theorem Texts.step {xs : List Int} {k m : Nat} {l : List (List UInt8)} (h : Texts xs k l) (hl : l.length = m) (hx : xs.length = m) (hk : k < m) : Texts xs (k + 1) (l.set k (itoa (xs.getD k 0))) := by
  unfold Texts at h ⊢
  have hk2 : k < xs.length := by omega
  have e : xs.getD k 0 = xs[k] := by simp [hk2]
  rw [List.take_succ_eq_append_getElem (by simp; omega), List.take_succ_eq_append_getElem hk2, List.take_set_of_le (Nat.le_refl _), h]
  simp only [List.map_append, List.map_cons, List.map_nil, List.getElem_set_self]
  rw [e]
theorem Texts.all {xs : List Int} {m : Nat} {l : List (List UInt8)} (h : Texts xs m l) (hl : l.length = m) (hx : xs.length = m) : l = xs.map itoa := by
  unfold Texts at h
  rwa [List.take_of_length_le (by omega), List.take_of_length_le (by omega)] at h

set_option maxRecDepth 100000 in
set_option maxHeartbeats 1600000 in
theorem fmtI_good (n : Int) (A : Option Addr) (xs : List Int) (cap : Nat) (w : World) (h : Hid (Ints w w.heap.size A xs)) (ht : Hid (Tab w)) (hf : isFn n xs = true) :
    Calls Tryz.prog 11 #[.agg #[.int .i64 n, .slice A xs.length cap]] w (RetV w (.string ⟨(txt xs xs.length).toArray⟩)) := by
  have HW := Lib.hid (St.start w)
  obtain ⟨_, _, _, hv⟩ := isFn_yes hf
  have hl := (isFn_len hf).2
  have HV := Lib.hid hv
  have hlen := txt_len hv xs.length (Nat.le_refl _)
  obtain ⟨m, hxm⟩ : ∃ m, xs.length = m := ⟨_, rfl⟩
  have h' := Lib.hid (show ∀ W, Ints W W.heap.size A xs → Calls Tryz.prog 14 #[.agg #[.int .i64 n, .slice A m cap]] W (RetV W (.bool true)) from fun W hW => by rw [← hxm]; exact isFnI_yes n A xs cap W hW hf)
  rw [hxm] at hl hlen ⊢
  have HX := Lib.hid hxm
  obtain ⟨T, hT⟩ : ∃ T, txt xs m = T := ⟨_, rfl⟩
  rw [hT] at hlen ⊢
  have HT := Lib.hid hT
  have HLEN := Lib.hid hlen
  clear hf hv hxm hT hlen
  obtain ⟨i0, hi, hi0, hi1, hi2⟩ := info_parts info_str
  go_enter Tryz.func11, Tryz.ntmps11
  go_wp2_with fail
  refine St.use (w0 := w) (by exact HW.out.alloc _ _) ?_
  intro hS
  refine (h'.out _ ((h.out.below hS.base).mono hS.size)).mono ?_
  rintro e w1 ⟨rfl, hb⟩
  have hS1 := hS.below hb
  have b0 := hS1.box (i := 0) rfl
  have b00 := b0.1 0 _ rfl
  have b01 := b0.1 1 _ rfl
  have HS1 := Lib.hid hS1
  clear hS hb hS1 b0
  go_wp2_with (refine wpList_make_full _ rfl _ _ _ rfl w1.heap.size 9 i0 (.string ⟨#[]⟩) 1 Tryz.underlying55 hi hi0 hi1 .i64 .i64 _ _ m rfl rfl rfl rfl (by rw [hi2]; omega) (by unfold maxLen; omega) (Nat.le_refl _) ?_; intro w2 hown2 hg2; rw [made_strs] at hown2; have hS2 := HS1.out.new ((Below.refl _ _).grown hg2 (Nat.le_refl _) (by simp)) hown2; have b2 := (hS2.box (i := 1) rfl).1; have b20 := b2 0 _ rfl; have b21 := b2 1 _ rfl; have HS2 := Lib.hid hS2; clear hS2 hown2 hg2 b2)
  have HN := Lib.hid (HS2.out.own (i := 0) rfl)
  clear b20 b21 b00 b01
  go_loopw [4, 5, 16] (fun _ _ i wr => ∃ (k : Nat) (l : List (List UInt8)), i = .int .i64 k ∧ k ≤ m ∧ l.length = m ∧ Texts xs k l ∧ St w wr [sl (.slice (some ⟨w1.heap.size, 0, none⟩) m m) m l, bx w.heap.size 26 [.int .i64 n, .slice A m cap]]) (fun _ _ i _ => m - (intOf i).toNat)
  case atStart => exact ⟨0, List.replicate m [], rfl, Nat.zero_le _, by simp, by simp [Texts], HS2.out⟩
  case round =>
    obtain ⟨k, l, rfl, hk, hll, htx, hS⟩ := hrel
    have HL := Lib.hid hll
    have HTX := Lib.hid htx
    have HS := Lib.hid hS
    by_cases hlt : k < m
    · obtain ⟨b, off, rfl, hbl, hc⟩ := (h.out.below hS.base).at_ (k := k) (by rw [HX.out]; exact hlt)
      obtain ⟨v1, v2⟩ := HV.out k (by rw [HX.out]; exact hlt)
      have hst := Lib.hid (htx.step hll HX.out hlt)
      have HTB := Lib.hid (tab_on ht.out (hS.base.mono (Nat.le_refl _)))
      clear hS hll htx
      obtain ⟨x, hx⟩ : ∃ x, xs.getD k 0 = x := ⟨_, rfl⟩
      rw [hx] at hc v1 v2 hst
      clear hx
      have hk0 : (0 : Int) ≤ (k : Int) := by omega
      have hkn : (k : Int) < (m : Int) := by omega
      go_wp2_with fail
      refine (ifi_any x _ (by omega) (by omega) HTB).mono ?_
      rintro e w3 ⟨rfl, hb⟩
      have hS3 := HS.out.below hb
      obtain ⟨c1, c2⟩ := St.cellS hS3 (i := 0) rfl hlt
      have HS3 := Lib.hid hS3
      clear hb hS3
      go_wp2
      have HS4 := Lib.hid (St.setS HS3.out (i := 0) rfl k (itoa x))
      go_roundw
      case rel => exact ⟨k + 1, l.set k (itoa x), by go_num, by omega, by rw [List.length_set]; exact HL.out, hst.out, HS4.out⟩
      case measure => simp [intOf]; omega
    · obtain rfl : k = m := by omega
      have hall := htx.all hll HX.out
      subst hall
      clear hll htx hS
      have hz1 := (HS.out.own (i := 0) rfl).lt w1.heap.size rfl
      have hj := Lib.hid (join_any w1.heap.size k k (xs.map itoa) wr (by rw [List.length_map]; exact HX.out) (fun j hjk => (St.cellS HS.out (i := 0) rfl hjk).1) hz1.2 (Nat.le_refl _) (by omega) (by have h1 := HT.out; have h2 := HLEN.out; have h3 := HX.out; unfold txt at h1; rw [List.take_of_length_le (by omega)] at h1; rw [h1]; omega))
      have hT2 : Lib.join (xs.map itoa) [44] = T := by have h1 := HT.out; have h3 := HX.out; unfold txt at h1; rwa [List.take_of_length_le (by omega)] at h1
      rw [hT2] at hj
      clear hT2 hz1
      go_wp2_with fail
      refine hj.out.mono ?_
      rintro e w3 ⟨rfl, hb⟩
      have HS3 := Lib.hid (HS.out.below hb)
      clear hb
      go_wp2
      go_ret
      exact ⟨rfl, HS3.out.base⟩

theorem fmtI_any (n : Int) (A : Option Addr) (xs : List Int) (cap : Nat) (w : World) (h : Hid (Ints w w.heap.size A xs)) (ht : Hid (Tab w)) :
    Calls Tryz.prog 11 #[.agg #[.int .i64 n, .slice A xs.length cap]] w (RetV w (.string ⟨(fmtFn n xs).toArray⟩)) := by
  cases hf : isFn n xs
  · simpa [fmtFn, hf] using fmtI_bad n A xs cap w h hf
  · simpa [fmtFn, hf] using fmtI_good n A xs cap w h ht hf

end Go.Proofs.YtielfnjkfceliaaGreatDoor.C
