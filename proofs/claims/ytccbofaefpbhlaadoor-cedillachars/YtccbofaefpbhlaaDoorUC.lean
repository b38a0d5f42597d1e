/-
  utf.Next: its contract.
-/
import Derived.Test.YtccbofaefpbhlaaDoorUB
namespace Go.Proofs.YtccbofaefpbhlaaDoor.Utf
set_option linter.unusedVariables false
set_option maxRecDepth 20000
open Go.RowKit Go.Lib

theorem byte_at (s : ByteArray) (i : Nat) (h : i < s.size) : (s.data.toList.getD i 0).toNat = s[i].toNat := by
  have hl : i < s.data.toList.length := by rw [Array.length_toList]; exact h
  have : s.data.toList.getD i 0 = s.data.toList[i] := by simp only [List.getD, List.getElem?_eq_getElem hl, Option.getD_some]
  rw [this]
  rfl
theorem toldW_range {b w : Nat} (h : toldW b = w) : (w = 0) ∨ (w = 1 ∧ b < 128) ∨ (w = 2 ∧ 192 ≤ b ∧ b < 224) ∨ (w = 3 ∧ 224 ≤ b ∧ b < 240) ∨ (w = 4 ∧ 240 ≤ b ∧ b < 248) := by
  unfold toldW at h
  (repeat' split at h) <;> omega
theorem numW_lt {bs : List UInt8} {w i : Nat} (h : toldW (bs.getD 0 0).toNat = w) (h1 : 1 ≤ i) (hi : i < w) : numW w bs i < 131072 := by
  have h0 : numW w bs 1 < 32 := by
    show (bs.getD 0 0).toNat - markW w < 32
    rcases toldW_range h with rfl | ⟨rfl, h2⟩ | ⟨rfl, h2⟩ | ⟨rfl, h2⟩ | ⟨rfl, h2⟩
    · omega
    · omega
    · rw [show markW 2 = 192 from rfl]; omega
    · rw [show markW 3 = 224 from rfl]; omega
    · rw [show markW 4 = 240 from rfl]; omega
  have hw := toldW_le (bs.getD 0 0).toNat
  have h2 : numW w bs 2 = _ := numW_step w bs (i := 1) (by omega)
  have h3 : numW w bs 3 = _ := numW_step w bs (i := 2) (by omega)
  rcases (show i = 1 ∨ i = 2 ∨ i = 3 by omega) with rfl | rfl | rfl <;> omega
theorem full_list {s : ByteArray} (h : ¬ s.size = 0) : s.toList.isEmpty = false := by
  rw [ByteArray.toList_eq]
  cases hl : s.data.toList with
  | nil => exact absurd (show s.size = 0 by show s.data.size = 0; simpa using congrArg List.length hl) h
  | cons _ _ => rfl
/-- What Next answers. -/
def nextV (c n : Nat) : Value := .tuple #[.int .i32 (c : Nat), .int .i64 (n : Nat), .bool (decide (0 < n))]
theorem first_none {bs : List UInt8} {c n : Nat} (h : FirstIs bs c n) (hn : ∀ d, ¬ Begins bs d) : c = 0 ∧ n = 0 := by
  rcases h with ⟨h1, _⟩ | ⟨h1, h2, _⟩
  · exact absurd h1 (hn _)
  · exact ⟨h1, h2⟩
theorem and_not63 (b : Nat) (hb : b < 256) : (bits .andNot .u8 (b : Int) 63 == 128) = decide (b / 64 = 2) := by
  rw [show (63 : Int) = ((63 : Nat) : Int) from rfl, u8_andNot_nat b 63 hb (by decide)]
  exact (show ∀ b, b < 256 → ((((b &&& (255 - 63) : Nat) : Int) == 128) = decide (b / 64 = 2)) by decide +kernel) b hb
theorem and_63 (b : Nat) (hb : b < 256) : bits .and .u8 (b : Int) 63 = ((b % 64 : Nat) : Int) := by
  rw [show (63 : Int) = ((63 : Nat) : Int) from rfl, u8_and_nat b 63 hb (by decide), nat_mask6]

set_option maxHeartbeats 4000000 in
theorem next_any (s : ByteArray) (w : World) (he : Env w) (hs : s.size ≤ 1000000) (c n : Nat) (h : FirstIs s.data.toList c n) :
    Calls Tryd.prog 50 #[.string s] w (RetV (nextV c n) w) := by
  obtain ⟨bs, hbs⟩ : ∃ bs, Hid (s.data.toList = bs) := ⟨_, rfl⟩
  rw [hbs.out] at h
  have hlen : bs.length = s.size := by rw [← hbs.out]; exact Array.length_toList
  by_cases h0 : s.size = 0
  · obtain ⟨rfl, rfl⟩ := first_none h (by rw [List.length_eq_zero_iff.1 (hlen.trans h0)]; exact not_begins_nil)
    have hse : s = ⟨#[]⟩ := by
      apply ByteArray.ext
      exact Array.eq_empty_of_size_eq_zero h0
    subst hse
    go_enter Tryd.func50, Tryd.ntmps50
    go_wp2
    exact bodyPost_ret (v := nextV 0 0) (by simp [nextV, results, Tryd.results50, go_sem]) rfl ⟨rfl, Below.refl _ _⟩
  · have hpos : 0 < s.size := by omega
    have hne := full_list h0
    obtain ⟨b0, hb0⟩ : ∃ b0, s[0].toNat = b0 := ⟨_, rfl⟩
    have hb0' : (bs.getD 0 0).toNat = b0 := by rw [← hbs.out, byte_at s 0 hpos, hb0]
    have hb256 : b0 < 256 := by rw [← hb0]; exact UInt8.toNat_lt _
    obtain ⟨W, hW⟩ : ∃ W, toldW b0 = W := ⟨_, rfl⟩
    have hW' : toldW (bs.getD 0 0).toNat = W := by rw [hb0']; exact hW
    have HT := Lib.hid (toldWidth_any b0 hb256 w he)
    rw [hW] at HT
    have hnone : (∀ d, Begins bs d → wid d = W ∧ W ≤ s.size ∧ (∀ j, 1 ≤ j → j < W → (bs.getD j 0).toNat / 64 = 2) ∧ numW W bs W = d) := fun d hd => by
      have h5 := begins_told hd
      rw [hW'] at h5
      exact ⟨h5.1.symm, by rw [h5.1, ← hlen]; exact h5.2.1, by rw [h5.1]; exact h5.2.2.1, by rw [h5.1]; exact h5.2.2.2⟩
    have hnone := Lib.hid hnone
    go_enter Tryd.func50, Tryd.ntmps50
    go_wp2_with fail
    refine HT.out.mono ?_
    rintro e w1 ⟨rfl, y1⟩
    have he1 := he.kept y1
    by_cases hz : W = 0 ∨ s.size < W
    · obtain ⟨rfl, rfl⟩ := first_none h (fun d hd => by
        obtain ⟨h1, h2, _⟩ := hnone.out d hd
        have := wid_pos d
        omega)
      clear hnone HT
      rcases hz with rfl | hz
      · go_wp2
        exact bodyPost_ret (v := nextV 0 0) (by simp [nextV, results, Tryd.results50, go_sem]) rfl ⟨rfl, y1⟩
      · have hz1 : ((W : Int) == 0) = false := by rw [beq_eq_false_iff_ne]; omega
        go_wp2
        exact bodyPost_ret (v := nextV 0 0) (by simp [nextV, results, Tryd.results50, go_sem]) rfl ⟨rfl, y1⟩
    · have hW1 : 1 ≤ W ∧ W ≤ s.size := by omega
      have hz1 : ((W : Int) == 0) = false := by rw [beq_eq_false_iff_ne]; omega
      have hz2 : ¬ (s.size : Int) < W := by omega
      clear hz HT
      go_upto_region 6 with fail
      go_cut [6] (fun c6 wx => c6 = .int .i32 (numW W bs 1 : Nat) ∧ Below w1.heap.size w1 wx)
      case first =>
        have c1 : w1.cell? ⟨0, 1, none⟩ = some (.int .u8 128) := he1.2 1 _ rfl
        have c4 : w1.cell? ⟨0, 4, none⟩ = some (.int .u8 224) := he1.2 4 _ rfl
        have c7 : w1.cell? ⟨0, 7, none⟩ = some (.int .u8 240) := he1.2 7 _ rfl
        have c10 : w1.cell? ⟨0, 10, none⟩ = some (.int .u8 248) := he1.2 10 _ rfl
        have en : numW W bs 1 = b0 - markW W := by rw [← hb0']; rfl
        rcases toldW_range hW with rfl | ⟨rfl, hr⟩ | ⟨rfl, hr⟩ | ⟨rfl, hr⟩ | ⟨rfl, hr⟩
        · omega
        · have eb : bits .andNot .u8 (b0 : Int) 128 = ((b0 - markW 1 : Nat) : Int) := by
            rw [show (128 : Int) = ((128 : Nat) : Int) from rfl, u8_andNot_nat b0 128 hb256 (by decide), show 255 - 128 = 127 from rfl, nat_mask7, show markW 1 = 0 from rfl]
            omega
          have hlt : b0 - markW 1 < 256 := by omega
          generalize b0 - markW 1 = d at *
          go_region
          go_wp2
          go_meet
          exact ⟨by rw [en], below_drew _⟩
        · have eb : bits .andNot .u8 (b0 : Int) 224 = ((b0 - markW 2 : Nat) : Int) := by
            rw [show (224 : Int) = ((224 : Nat) : Int) from rfl, u8_andNot_nat b0 224 hb256 (by decide), show 255 - 224 = 31 from rfl, nat_mask5, show markW 2 = 192 from rfl]
            omega
          have hlt : b0 - markW 2 < 256 := by omega
          generalize b0 - markW 2 = d at *
          go_region
          go_wp2
          go_meet
          exact ⟨by rw [en], below_drew _⟩
        · have eb : bits .andNot .u8 (b0 : Int) 240 = ((b0 - markW 3 : Nat) : Int) := by
            rw [show (240 : Int) = ((240 : Nat) : Int) from rfl, u8_andNot_nat b0 240 hb256 (by decide), show 255 - 240 = 15 from rfl, nat_mask4, show markW 3 = 224 from rfl]
            omega
          have hlt : b0 - markW 3 < 256 := by omega
          generalize b0 - markW 3 = d at *
          go_region
          go_wp2
          go_meet
          exact ⟨by rw [en], below_drew _⟩
        · have eb : bits .andNot .u8 (b0 : Int) 248 = ((b0 - markW 4 : Nat) : Int) := by
            rw [show (248 : Int) = ((248 : Nat) : Int) from rfl, u8_andNot_nat b0 248 hb256 (by decide), show 255 - 248 = 7 from rfl, nat_mask3, show markW 4 = 240 from rfl]
            omega
          have hlt : b0 - markW 4 < 256 := by omega
          generalize b0 - markW 4 = d at *
          go_region
          go_wp2
          go_meet
          exact ⟨by rw [en], below_drew _⟩
      case rest =>
        obtain ⟨rfl, hb6⟩ := hcut
        have hbw := below_step y1 hb6
        have he6 := he1.kept hb6
        clear hb6 he1 y1 hz2 hb0 hb0' hW
        go_wp2_with fail
        go_loopw [6, 7] (fun c6 i7 wr => wr = wc ∧ ∃ i : Nat, 1 ≤ i ∧ i ≤ W ∧ i7 = .int .i64 i ∧ c6 = .int .i32 (numW W bs i : Nat) ∧ ∀ j, 1 ≤ j → j < i → (bs.getD j 0).toNat / 64 = 2) (fun _ i7 _ => W - (intOf i7).toNat)
        case atStart => exact ⟨rfl, 1, by omega, hW1.1, rfl, rfl, fun j h1 h2 => by omega⟩
        case round =>
          obtain ⟨rfl, i, hi1, hiW, rfl, rfl, hfo⟩ := hrel
          have hfo := Lib.hid hfo
          by_cases hil : i < W
          · have his : i < s.size := by omega
            obtain ⟨b, hb⟩ : ∃ b, s[i].toNat = b := ⟨_, rfl⟩
            have hb' : (bs.getD i 0).toNat = b := by rw [← hbs.out, byte_at s i his, hb]
            have hbl : b < 256 := by rw [← hb]; exact UInt8.toNat_lt _
            have f1 := and_not63 b hbl
            rcases hc : decide (b / 64 = 2) with _ | _
            · rw [hc] at f1
              rw [decide_eq_false_iff_not] at hc
              obtain ⟨rfl, rfl⟩ := first_none h (fun d hd => by
                obtain ⟨_, _, h3, _⟩ := hnone.out d hd
                exact hc (hb' ▸ h3 i hi1 hil))
              clear hnone
              go_wp2
              exact bodyPost_ret (v := nextV 0 0) (by simp [nextV, results, Tryd.results50, go_sem]) rfl ⟨rfl, hbw⟩
            · rw [hc] at f1
              rw [decide_eq_true_iff] at hc
              have f2 := and_63 b hbl
              have hnl := numW_lt hW' hi1 hil
              have hst := numW_step W bs hi1
              rw [hb'] at hst
              generalize numW W bs i = C at *
              have hb64 : b % 64 < 64 := Nat.mod_lt _ (by decide)
              generalize b % 64 = r at *
              have f3 : bits .or .i32 ((C * 64 : Nat) : Int) (r : Int) = ((C * 64 + r : Nat) : Int) := by
                have := i32_or6 (x := ((C * 64 : Nat) : Int)) (y := (r : Int)) (by omega) (by omega) (by omega) (by omega) (by omega)
                rw [this]
                omega
              go_wp2
              go_roundw
              case rel => exact ⟨trivial, i + 1, by omega, by omega, by go_num, by rw [hst]; go_num, fun j h1 h2 => by
                rcases Nat.lt_or_ge j i with h3 | h3
                · exact hfo.out j h1 h3
                · obtain rfl : j = i := by omega
                  rw [hb']; exact hc⟩
              case measure => simp [intOf]; omega
          · obtain rfl : i = W := by omega
            have HW := Lib.hid (width_any (numW i bs i : Nat) _ he6)
            rcases hwi : decide (widI (numW i bs i : Nat) = i) with _ | _
            · rw [decide_eq_false_iff_not] at hwi
              obtain ⟨rfl, rfl⟩ := first_none h (fun d hd => by
                obtain ⟨h1, _, _, h4⟩ := hnone.out d hd
                apply hwi
                rw [h4, widI, if_pos ((isI_iff _).2 ⟨by omega, by simpa using hd.1⟩)]
                simpa using h1)
              have hwb : (((widI (numW i bs i : Nat) : Nat) : Int) != (i : Int)) = true := by
                simp only [bne_iff_ne, ne_eq]
                omega
              generalize widI (numW i bs i : Nat) = q at *
              generalize numW i bs i = C at *
              clear hnone
              go_wp2_with fail
              refine HW.out.mono ?_
              rintro e w2 ⟨rfl, y2⟩
              go_wp2
              exact bodyPost_ret (v := nextV 0 0) (by simp [nextV, results, Tryd.results50, go_sem]) rfl ⟨rfl, below_step hbw y2⟩
            · rw [decide_eq_true_iff] at hwi
              have hci : isC (numW i bs i) ∧ wid (numW i bs i) = i := by
                rw [widI] at hwi
                split at hwi
                · rename_i h5
                  have h6 := ((isI_iff _).1 h5).2
                  exact ⟨by simpa using h6, by simpa using hwi⟩
                · omega
              have hB : Begins bs (numW i bs i) := told_begins hW' (by omega) (by omega) hfo.out hci.1 hci.2
              obtain ⟨rfl, rfl⟩ := h.inj (.inl ⟨hB, hci.2.symm⟩ : FirstIs bs (numW i bs i) i)
              rw [hwi] at HW
              clear hnone hB hci hfo h
              go_wp2_with fail
              refine HW.out.mono ?_
              rintro e w2 ⟨rfl, y2⟩
              go_wp2
              have hd : decide (0 < n) = true := by simp; omega
              exact bodyPost_ret (v := nextV (numW n bs n) n) (by simp [nextV, results, Tryd.results50, go_sem, hd]) rfl ⟨rfl, below_step hbw y2⟩
end Go.Proofs.YtccbofaefpbhlaaDoor.Utf
