/-
  utf.Last: its contract.
-/
import Derived.Test.YtobfhidajcnfdabDoorUE
namespace Go.Proofs.YtobfhidajcnfdabDoor
set_option linter.unusedVariables false
set_option maxRecDepth 20000
open Go.RowKit Go.Lib

/-- No character makes the last j bytes. -/
def NoEnd (bs : List UInt8) (j : Nat) : Prop := ∀ d, ¬ FirstIs (bs.drop (bs.length - j)) d j
/-- The character c of m bytes is the last one, the one of the fewest bytes; m = 0: none is. -/
def LastIs (bs : List UInt8) (c m : Nat) : Prop :=
  (m = 0 ∧ c = 0 ∧ ∀ j, 1 ≤ j → j ≤ 4 → j ≤ bs.length → NoEnd bs j) ∨ (1 ≤ m ∧ m ≤ 4 ∧ m ≤ bs.length ∧ FirstIs (bs.drop (bs.length - m)) c m ∧ ∀ j, 1 ≤ j → j < m → NoEnd bs j)
theorem lastIs_total (bs : List UInt8) : ∃ c m, LastIs bs c m := by
  have hgo : ∀ t, (∀ j, 1 ≤ j → j ≤ t → j ≤ bs.length → NoEnd bs j) ∨ (∃ c m, 1 ≤ m ∧ m ≤ t ∧ m ≤ bs.length ∧ FirstIs (bs.drop (bs.length - m)) c m ∧ ∀ j, 1 ≤ j → j < m → NoEnd bs j) := by
    intro t
    induction t with
    | zero => exact .inl fun j h1 h2 => by omega
    | succ t ih =>
      rcases ih with h | ⟨c, m, h1, h2, h3⟩
      · rcases Classical.em (t + 1 ≤ bs.length ∧ ∃ d, FirstIs (bs.drop (bs.length - (t + 1))) d (t + 1)) with ⟨hl, d, hd⟩ | hn
        · exact .inr ⟨d, t + 1, by omega, by omega, hl, hd, fun j h1 h2 => h j h1 (by omega) (by omega)⟩
        · refine .inl fun j h1 h2 h3 => ?_
          rcases Nat.lt_or_ge j (t + 1) with h4 | h4
          · exact h j h1 (by omega) h3
          · obtain rfl : j = t + 1 := by omega
            exact fun d hd => hn ⟨h3, d, hd⟩
      · exact .inr ⟨c, m, h1, by omega, h3⟩
  rcases hgo 4 with h | ⟨c, m, h⟩
  · exact ⟨0, 0, .inl ⟨rfl, rfl, h⟩⟩
  · exact ⟨c, m, .inr h⟩
/-- What is found at j is the last one. -/
theorem LastIs.found {bs : List UInt8} {c m j d : Nat} (h : LastIs bs c m) (h1 : 1 ≤ j) (h4 : j ≤ 4) (hl : j ≤ bs.length) (hj : m = 0 ∨ j ≤ m) (hd : FirstIs (bs.drop (bs.length - j)) d j) : d = c ∧ j = m := by
  rcases h with ⟨rfl, rfl, h5⟩ | ⟨h5, h6, h7, h8, h9⟩
  · exact absurd hd (h5 j h1 h4 hl d)
  · rcases Nat.lt_or_ge j m with h10 | h10
    · exact absurd hd (h9 j h1 h10 d)
    · obtain rfl : j = m := by omega
      exact ⟨(hd.inj h8).1, rfl⟩
theorem LastIs.here {bs : List UInt8} {c m : Nat} (h : LastIs bs c m) (h0 : 0 < m) : FirstIs (bs.drop (bs.length - m)) c m := by
  rcases h with ⟨rfl, _⟩ | ⟨_, _, _, h8, _⟩
  · omega
  · exact h8
theorem LastIs.le {bs : List UInt8} {c m : Nat} (h : LastIs bs c m) : m ≤ 4 ∧ m ≤ bs.length ∧ (m = 0 → c = 0) := by
  rcases h with ⟨rfl, rfl, _⟩ | ⟨h1, h2, h3, _⟩
  · exact ⟨by omega, by omega, fun _ => rfl⟩
  · exact ⟨h2, h3, fun h => by omega⟩
theorem drop_list (s : ByteArray) (n : Nat) (h : n ≤ s.size) : (s.extract n s.size).data.toList = s.data.toList.drop n := by
  rw [ByteArray.data_extract, Array.toList_extract, List.extract_eq_take_drop, List.take_of_length_le]
  rw [List.length_drop, Array.length_toList]
  exact Nat.le_refl _

set_option maxHeartbeats 4000000 in
theorem last_any (s : ByteArray) (w : World) (he : Env w) (hs : s.size ≤ 1000000) (c m : Nat) (h : LastIs s.data.toList c m) :
    Calls Tryd.prog 22 #[.string s] w (RetV (nextV c m) w) := by
  have hlen : s.data.toList.length = s.size := Array.length_toList
  have hle := h.le
  rw [hlen] at hle
  replace h := Lib.hid h
  have hnext : ∀ j d k W, Env W → j ≤ s.size → FirstIs (s.data.toList.drop (s.size - j)) d k → Calls Tryd.prog 20 #[.string (s.extract (s.size - j) s.size)] W (RetV (nextV d k) W) := fun j d k W hW hj hd =>
    next_any _ W hW (by rw [ByteArray.size_extract]; omega) d k (by rw [drop_list s _ (by omega)]; exact hd)
  replace hnext := Lib.hid hnext
  go_enter Tryd.func22, Tryd.ntmps22
  go_wp2_with fail
  go_loopw [5] (fun n5 wr => Below w.heap.size w wr ∧ ∃ j : Nat, 1 ≤ j ∧ j ≤ 5 ∧ n5 = .int .i64 j ∧ (m = 0 ∨ j ≤ m)) (fun n5 _ => 5 - (intOf n5).toNat)
  case atStart => exact ⟨Below.refl _ _, 1, by omega, by omega, rfl, by omega⟩
  case round =>
    obtain ⟨hbw, j, hj1, hj5, rfl, hjm⟩ := hrel
    by_cases hin : j ≤ 4 ∧ j ≤ s.size
    · obtain ⟨hj4, hjs⟩ := hin
      obtain ⟨d, k, hdk⟩ := firstIs_total (s.data.toList.drop (s.size - j))
      have HX := Lib.hid fun W hW => hnext.out j d k W hW hjs hdk
      have he1 := he.kept hbw
      have hcmp : (0 < k ∧ k = j ∧ d = c ∧ j = m) ∨ (k = 0 ∧ j ≠ m) ∨ (0 < k ∧ k ≠ j ∧ j ≠ m) := by
        have hh : j = m → k = m ∧ d = c := fun e => by
          subst e
          have h8 := h.out.here (by omega)
          rw [hlen] at h8
          obtain ⟨e1, e2⟩ := hdk.inj h8
          exact ⟨e2, e1⟩
        rcases Nat.eq_zero_or_pos k with h0 | h0
        · exact .inr (.inl ⟨h0, fun e => by have := hh e; omega⟩)
        · rcases Classical.em (k = j) with h1 | h1
          · subst h1
            obtain ⟨e1, e2⟩ := h.out.found hj1 hj4 (by omega) hjm (by rw [hlen]; exact hdk)
            exact .inl ⟨h0, rfl, e1, e2⟩
          · exact .inr (.inr ⟨h0, h1, fun e => h1 (by have := hh e; omega)⟩)
      rcases hcmp with ⟨h0, rfl, rfl, rfl⟩ | ⟨rfl, hne⟩ | ⟨h0, hkj, hne⟩
      · have hd0 : decide (0 < k) = true := by simp; omega
        simp only [nextV, hd0] at HX ⊢
        clear hnext hdk hle hjm
        rcases Int.lt_or_le (s.size : Int) 4 with hs4 | hs4
        all_goals
          go_wp2_with fail
          refine (HX.out _ he1).mono ?_
          rintro e w1 ⟨rfl, y1⟩
          go_wp2
          exact bodyPost_ret (v := .tuple #[.int .i32 (d : Nat), .int .i64 (k : Nat), .bool true]) (by simp [results, Tryd.results22, go_sem]) rfl ⟨rfl, below_step hbw y1⟩
      · simp only [nextV] at HX
        clear hnext hdk hle
        rcases Int.lt_or_le (s.size : Int) 4 with hs4 | hs4
        all_goals
          go_wp2_with fail
          refine (HX.out _ he1).mono ?_
          rintro e w1 ⟨rfl, y1⟩
          go_wp2
          go_roundw
          case rel => exact ⟨below_step hbw y1, j + 1, by omega, by omega, by go_num, by omega⟩
          case measure => simp [intOf]; omega
      · have hd0 : decide (0 < k) = true := by simp; omega
        have hkb : ((k : Int) == (j : Int)) = false := by rw [beq_eq_false_iff_ne]; omega
        simp only [nextV, hd0] at HX
        clear hnext hdk hle
        rcases Int.lt_or_le (s.size : Int) 4 with hs4 | hs4
        all_goals
          go_wp2_with fail
          refine (HX.out _ he1).mono ?_
          rintro e w1 ⟨rfl, y1⟩
          go_wp2
          go_roundw
          case rel => exact ⟨below_step hbw y1, j + 1, by omega, by omega, by go_num, by omega⟩
          case measure => simp [intOf]; omega
    · have hm0 : m = 0 := by omega
      subst hm0
      obtain rfl := hle.2.2 rfl
      clear hnext
      rcases Int.lt_or_le (s.size : Int) 4 with hs4 | hs4
      · have hjs : (s.size : Int) < j := by omega
        go_wp2
        exact bodyPost_ret (v := nextV 0 0) (by simp [nextV, results, Tryd.results22, go_sem]) rfl ⟨rfl, hbw⟩
      · have hjs : (4 : Int) < j := by omega
        go_wp2
        exact bodyPost_ret (v := nextV 0 0) (by simp [nextV, results, Tryd.results22, go_sem]) rfl ⟨rfl, hbw⟩
end Go.Proofs.YtobfhidajcnfdabDoor
