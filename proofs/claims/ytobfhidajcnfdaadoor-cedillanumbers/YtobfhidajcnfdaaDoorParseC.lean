/-
  The document's Text and Parse of numbers.
-/
import Derived.Test.YtobfhidajcnfdaaDoorParseA
import Derived.Test.YtobfhidajcnfdaaDoorIs
namespace Go.Proofs.YtobfhidajcnfdaaDoor
set_option linter.unusedVariables false
set_option maxRecDepth 20000
open Go.RowKit

/-- One byte as a text. -/
theorem one_string (d : Nat) (hd : d < 10) (w : World) : (convert 42 9 (.slice (some ⟨w.heap.size, 0, none⟩) 1 1)).run Tryd.prog (w.alloc (.cells #[.int .u8 (48 + (d : Int))] 5)) = .ok (.string ⟨[UInt8.ofNat (48 + d)].toArray⟩) (w.alloc (.cells #[.int .u8 (48 + (d : Int))] 5)) := by
  refine run_convert_bytes_back _ 42 9 5 ⟨w.heap.size, 0, none⟩ 1 [UInt8.ofNat (48 + d)] Tryd.underlying42 Tryd.underlying5 Tryd.underlying9 ?_
  intro j hj
  obtain rfl : j = 0 := by simp at hj; omega
  rw [add_off, (Blk.new w 5 _).cell]
  simp only [List.getElem_cons_zero]
  rw [digit_back d hd]
  simp

/-- The text of the lowest digits. -/
def digText (l : List Nat) : ByteArray := ⟨(l.map fun d => UInt8.ofNat (48 + d)).reverse.toArray⟩
theorem digText_size (l : List Nat) : (digText l).size = l.length := by simp [digText, ByteArray.size]
theorem digText_take (l : List Nat) (i : Nat) (h : i < l.length) : (⟨[UInt8.ofNat (48 + l.getD i 0)].toArray⟩ : ByteArray) ++ digText (l.take i) = digText (l.take (i + 1)) := by
  apply ByteArray.ext
  apply Array.toList_inj.1
  rw [ByteArray.data_append, Array.toList_append, List.take_succ_eq_append_getElem h]
  show [UInt8.ofNat (48 + l.getD i 0)] ++ ((l.take i).map fun d => UInt8.ofNat (48 + d)).reverse = ((l.take i ++ [l[i]]).map fun d => UInt8.ofNat (48 + d)).reverse
  rw [List.map_append, List.reverse_append, show l.getD i 0 = l[i] by simp [List.getD, h]]
  rfl

set_option maxHeartbeats 2000000 in
theorem refText_any (v : Value) (k N : Nat) (w : World) (h : IsD w v k N) (hk : k ≤ 1000000) : Calls Tryd.prog 14 #[v] w (RetV (.string ⟨(Lib.decDigits N).toArray⟩) w) := by
  obtain ⟨l, ⟨A, c, rfl, hr, hlc⟩, hn, hv, hlk⟩ := h
  by_cases hl : l = []
  · subst hl
    have e : Lib.decDigits N = [48] := by rw [← hv]; exact Lib.decDigits_one (by decide)
    rw [e]
    clear hv e
    go_enter Tryd.func14, Tryd.ntmps14
    go_wp2
    go_ret
    exact ⟨rfl, Below.refl _ _⟩
  · have HE : Hid (digText l = ⟨(Lib.decDigits N).toArray⟩) := by
      rw [Hid, digText, text_digits l hn hl, hv]
    rw [← HE.out]
    have hpos : 0 < l.length := List.length_pos_iff.2 hl
    have hz : ((l.length : Int) == 0) = false := by simp; exact hl
    clear hv hl
    go_enter Tryd.func14, Tryd.ntmps14
    go_wp2
    go_loopw [3, 11] (fun s t wr => ∃ i : Nat, i ≤ l.length ∧ t = .int .i64 i ∧ s = .string (digText (l.take i)) ∧ Below w.heap.size w wr) (fun _ t _ => l.length - (intOf t).toNat)
    case atStart => exact ⟨0, by omega, rfl, rfl, Below.refl _ _⟩
    case round =>
      obtain ⟨i, hi, rfl, rfl, hbw⟩ := hrel
      by_cases hil : i < l.length
      · obtain ⟨ad, rfl, hab, hx⟩ := (hr.below hbw).row.at_ hil
        have hd := lt_of_mem_getD hn.1 hil
        have HT := Lib.hid (digText_take l i hil)
        have hsz : (digText (l.take i)).size ≤ 1000000 := by rw [digText_size, List.length_take]; omega
        have cv := one_string _ hd wr
        generalize l.getD i 0 = d at *
        generalize digText (l.take i) = t at *
        generalize UInt8.ofNat (48 + d) = bt at *
        go_wp2
        go_roundw
        case rel => exact ⟨i + 1, by omega, by go_num, by rw [← HT.out], hbw.alloc hbw.size _⟩
        case measure => simp [intOf]; omega
      · obtain rfl : i = l.length := by omega
        rw [List.take_length]
        go_wp2
        go_ret
        exact ⟨rfl, hbw⟩

theorem make_ints (w : World) (n : Nat) (hn : n ≤ 10000000) : (Instr.makeSlice 33 (.int .i64 n) (.int .i64 n)).run Tryd.prog w = .ok (.slice (some ⟨w.heap.size, 0, none⟩) n n) (w.alloc (.cells (blkOf .i64 (List.replicate n 0)) 3)) := by
  obtain ⟨i0, hi0, hz0, hz1, hz2⟩ := info_parts int_info
  have h := run_make (P := Tryd.prog) w 33 3 i0 (.int .i64 0) Tryd.underlying33 hi0 hz0 .i64 .i64 n n (by omega) (by omega) (by rw [hz2]; omega) (by omega)
  rw [h, hz1, made_zeros _ _ rfl]
  simp [blkOf, cellsOf]

/-- It answers digits, and an error's number. -/
def RetRP (k N : Nat) (er : Int) (w : World) (e : Ending) (w' : World) : Prop := ∃ v, e = .returned (.tuple #[v, .int .i64 er]) ∧ IsD w' v k N ∧ Below w.heap.size w w'

/-- The digits that are there behind i steps. -/
def digsAt (bs : List UInt8) (i : Nat) : List Nat := List.replicate (bs.length - i) 0 ++ ((bs.take i).map fun b => b.toNat - 48).reverse
theorem digsAt_zero (bs : List UInt8) : digsAt bs 0 = List.replicate bs.length 0 := by simp [digsAt]
theorem digsAt_all (bs : List UInt8) : digsAt bs bs.length = (bs.map fun b => b.toNat - 48).reverse := by simp [digsAt]
theorem digsAt_length (bs : List UInt8) (i : Nat) (h : i ≤ bs.length) : (digsAt bs i).length = bs.length := by simp [digsAt]; omega
theorem digsAt_set (bs : List UInt8) (i : Nat) (h : i < bs.length) : (digsAt bs i).set (bs.length - 1 - i) (bs[i].toNat - 48) = digsAt bs (i + 1) := by
  unfold digsAt
  rw [List.take_succ_eq_append_getElem h, List.map_append, List.reverse_append, show bs.length - i = (bs.length - 1 - i) + 1 by omega, List.replicate_succ', show bs.length - (i + 1) = bs.length - 1 - i by omega, List.append_assoc]
  rw [List.set_append_right _ _ (by simp)]
  simp

theorem isD_nil (w : World) (k : Nat) : IsD w (.slice none 0 0) k 0 := ⟨[], ⟨none, 0, rfl, Arr.empty, by simp⟩, Norm.nil _, rfl, by simp⟩
theorem digs_lt (bs : List UInt8) (h : Digs bs) : ∀ x ∈ (bs.map fun b => b.toNat - 48).reverse, x < 10 := by
  intro x hx
  simp only [List.mem_reverse, List.mem_map] at hx
  obtain ⟨b, hb, rfl⟩ := hx
  have := h b hb
  omega

theorem refParse_big (s : ByteArray) (w : World) (h : 10000 < s.size) (hs : s.size ≤ 1000000) : Calls Tryd.prog 17 #[.string s] w (RetRP 0 0 4 w) := by
  go_enter Tryd.func17, Tryd.ntmps17
  go_wp2
  go_ret2
  exact ⟨_, rfl, isD_nil _ _, Below.refl _ _⟩
theorem refParse_empty (s : ByteArray) (w : World) (hs : s.size = 0) : Calls Tryd.prog 17 #[.string s] w (RetRP 0 0 3 w) := by
  obtain ⟨hE, hE2⟩ := empty_list hs
  clear hs
  have hs : s.size ≤ 10000 := by rw [ByteArray.toList_eq] at hE2; have := congrArg List.length hE2; rw [Array.length_toList] at this; have h3 : s.size = 0 := this; omega
  go_enter Tryd.func17, Tryd.ntmps17
  go_wp2
  go_ret2
  exact ⟨_, rfl, isD_nil _ _, Below.refl _ _⟩
theorem refParse_nought (s : ByteArray) (w : World) (h1 : 1 < s.size) (hs : s.size ≤ 10000) (hx : ((s[0].toNat : Int) == 48) = true) : Calls Tryd.prog 17 #[.string s] w (RetRP 0 0 3 w) := by
  obtain ⟨hE, hE2⟩ := full_list (s := s) (by omega)
  have h0 : 0 < s.size := by omega
  go_enter Tryd.func17, Tryd.ntmps17
  go_wp2
  go_ret2
  exact ⟨_, rfl, isD_nil _ _, Below.refl _ _⟩

set_option maxHeartbeats 4000000 in
theorem refParse_loop (s : ByteArray) (w : World) (er : Int) (k N : Nat) (hh : HeadOk s) (hp : 0 < s.size) (hs : s.size ≤ 10000)
    (hok : Digs s.data.toList → er = 0 ∧ k = s.size ∧ N = decVal s.data.toList) (hno : ¬ Digs s.data.toList → er = 3 ∧ k = 0 ∧ N = 0) : Calls Tryd.prog 17 #[.string s] w (RetRP k N er w) := by
  obtain ⟨hE, hE2⟩ := full_list hp
  have hl : s.data.toList.length = s.size := Array.length_toList
  have HL := Lib.hid hl
  have HOK := Lib.hid hok
  have HNO := Lib.hid hno
  obtain ⟨n, hn⟩ : ∃ n, s.size = n := ⟨_, rfl⟩
  have hmk : ∀ w, (Instr.makeSlice 33 (.int .i64 (n : Int)) (.int .i64 (n : Int))).run Tryd.prog w = .ok (.slice (some ⟨w.heap.size, 0, none⟩) n n) (w.alloc (.cells (blkOf .i64 (List.replicate n 0)) 3)) := fun w => make_ints w n (by omega)
  clear hl hok hno
  rcases hh with h1 | ⟨_, h1, hhead⟩
  all_goals
    go_enter Tryd.func17, Tryd.ntmps17
    go_wp2
    go_loopw [5] (fun t wr => ∃ i : Nat, i ≤ n ∧ t = .int .i64 i ∧ Digs (s.data.toList.take i) ∧ Blk wr w.heap.size 3 (blkOf .i64 (digsAt s.data.toList i)) ∧ Below w.heap.size w wr) (fun t _ => n - (intOf t).toNat)
    case atStart => exact ⟨0, by omega, rfl, by intro x hx; simp at hx, by rw [digsAt_zero, HL.out, hn]; exact Blk.new w 3 _, below_new _ _⟩
    case round =>
      obtain ⟨i, hi, rfl, hd, hB, hbw⟩ := hrel
      have HD := Lib.hid hd
      clear hd
      by_cases hil : i < n
      · have hib : i < s.data.toList.length := by rw [HL.out, hn]; exact hil
        have hby : s.data.toList[i].toNat < 256 := UInt8.toNat_lt _
        by_cases hx : 48 ≤ s.data.toList[i].toNat ∧ s.data.toList[i].toNat ≤ 57
        · have HN := Lib.hid (digs_take_succ HD.out hib hx)
          have hset := digsAt_set s.data.toList i hib
          rw [HL.out, hn] at hset
          obtain ⟨p, hp'⟩ : ∃ p, n = p + i + 1 := ⟨n - 1 - i, by omega⟩
          have hsub : (n : Int) - 1 - (i : Int) = (p : Int) := by omega
          have hdl := digsAt_length s.data.toList i (by omega)
          have hcl := (hB.cell p).trans (blkOf_get .i64 _ (by rw [hdl, HL.out, hn]; omega))
          have hfr := hB.free p
          have hpn : p < n := by omega
          rw [show n - 1 - i = p by omega] at hset
          have HS := Lib.hid hset
          clear hset hdl hp'
          obtain ⟨hx1, hx2⟩ := hx
          generalize hbe : s.data.toList[i].toNat = c at *
          have hbe' : s[i].toNat = c := hbe
          have his : i < s.size := by omega
          have hB2 := hB.set_ p (.int .i64 ((c - 48 : Nat) : Int))
          rw [blkOf_set, HS.out] at hB2
          have hc48 : (c : Int) - 48 = ((c - 48 : Nat) : Int) := by omega
          go_wp2
          go_roundw
          case rel => exact ⟨i + 1, by omega, by go_num, HN.out, hB2, hbw.setCell (p := ⟨w.heap.size, p, none⟩) (Nat.le_refl _) _⟩
          case measure => simp [intOf]; omega
        · obtain ⟨rfl, rfl, rfl⟩ := HNO.out (fun h => hx (h _ (List.getElem_mem hib)))
          generalize hbe : s.data.toList[i].toNat = c at *
          have hbe' : s[i].toNat = c := hbe
          rcases Nat.lt_or_ge c 48 with h48 | h48
          · clear hx
            go_wp2
            go_ret2
            exact ⟨_, rfl, isD_nil _ _, hbw⟩
          · have h57 : 57 < c := by omega
            have h48' : ¬ c < 48 := by omega
            clear hx
            go_wp2
            go_ret2
            exact ⟨_, rfl, isD_nil _ _, hbw⟩
      · obtain rfl : i = n := by omega
        have hdd : Digs s.data.toList := by have := HD.out; rw [List.take_of_length_le (by rw [HL.out]; omega)] at this; exact this
        obtain ⟨rfl, rfl, rfl⟩ := HOK.out hdd
        have e : digsAt s.data.toList i = (s.data.toList.map fun b => b.toNat - 48).reverse := by
          rw [← hn, ← HL.out]; exact digsAt_all _
        rw [e] at hB
        have T := trimD_any (some ⟨w.heap.size, 0, none⟩) i i _ wr (by simp; exact HL.out.trans hn) (blkOf_arr hB) (digs_lt _ hdd) (by omega) (Nat.le_refl _)
        rw [val_digits] at T
        have HT := Lib.hid T
        clear T e
        go_wp2_with fail
        refine HT.out.mono ?_
        rintro e w2 ⟨v, rfl, hD, y2⟩
        obtain ⟨A2, n2, c2, rfl⟩ := hD.shape
        go_wp2
        go_ret2
        exact ⟨_, rfl, hD.more (by omega), below_step hbw y2⟩
end Go.Proofs.YtobfhidajcnfdaaDoor
