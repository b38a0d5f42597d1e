/-
  The laws' Told, the document's Encode: their contracts.
-/
import Derived.Test.YtobfhidajcnfdabDoorLawJoins
namespace Go.Proofs.YtobfhidajcnfdabDoor
set_option linter.unusedVariables false
set_option maxRecDepth 20000
open Go.RowKit Go.Lib

theorem own_nil (w : World) (B : Nat) (e : TypeId) : w.ownsRow B e 1 (.slice none 0 0) 0 [] := ⟨rfl, .inl ⟨rfl, rfl⟩⟩
theorem getD_mem {cs : List Nat} {i : Nat} (h : i < cs.length) : cs.getD i 0 ∈ cs := by
  simp only [List.getD, List.getElem?_eq_getElem h, Option.getD_some]
  exact List.getElem_mem _
theorem take_succ {cs : List Nat} {i : Nat} (h : i < cs.length) : cs.take (i + 1) = cs.take i ++ [cs.getD i 0] := by
  rw [List.take_add_one]
  simp [List.getD, h]

/-- It answers numbers, in a row of its own. -/
def RetI (cs : List Nat) (w : World) (e : Ending) (w' : World) : Prop := ∃ u, e = .returned u ∧ w'.ownsRow w.heap.size 3 1 u cs.length (cellsOf .i64 cs) ∧ Below w.heap.size w w'

set_option maxHeartbeats 2000000 in
theorem told_any (A : Option Addr) (c n : Nat) (cs : List Nat) (w : World) (hr : Row .i32 w A cs) (hn : cs.length = n) (hn6 : n ≤ 1000000) (hall : ∀ x ∈ cs, isC x) :
    Calls Tryd.prog 19 #[.slice A n c] w (RetI cs w) := by
  obtain ⟨i0, hi, hz0, hz1, hz2⟩ := info_parts int_info
  replace hall := Lib.hid hall
  go_enter Tryd.func19, Tryd.ntmps19
  go_wp2_with fail
  go_loopg [3, 8] n (fun m u3 i8 wx => ∃ i : Nat, i + m = n ∧ i8 = .int .i64 i ∧ wx.ownsRow w.heap.size 3 1 u3 i (cellsOf .i64 (cs.take i)) ∧ Below w.heap.size w wx)
  case atStart => exact ⟨0, by omega, rfl, own_nil _ _ _, Below.refl _ _⟩
  case round =>
    obtain ⟨i, hi1, rfl, hrow, hb1⟩ := hrel
    have hb1s := hb1.size
    obtain ⟨ao, cp, rfl⟩ := own_form hrow
    by_cases hlt : i < n
    · obtain ⟨ad, rfl, _, hc1⟩ := (hr.below hb1).at_ (i := i) (by omega)
      have hxl : cs.getD i 0 ≤ 1114111 := (hall.out _ (getD_mem (by omega))).le
      have HT := Lib.hid (take_succ (cs := cs) (i := i) (by omega))
      generalize cs.getD i 0 = x at *
      go_wp2_with (at_builtin; refine wpList_append_own _ rfl (.tmp 12) (.tmp 15) 24 rfl w.heap.size 3 i0 (.int .i64 0) 1 8 Tryd.underlying24 hi hz0 hz1 hz2 rfl (by decide) _ i _ rfl (hrow.alloc _) ⟨wr.heap.size, 0, none⟩ 1 1 [.int .i64 (x : Nat)] rfl rfl (cell_one_new _ _ _) (by simp [Value.oneCell']) (by unfold maxLen; omega) (by omega) (by simp; omega) ?_; intro v' w2 hown2 hgrow _; have hb2 : Below w.heap.size w w2 := (hb1.alloc hb1s _).grown hgrow (by simp; omega) (fun k hk => (hrow.lt k hk).1); clear hgrow)
      go_roundg (n - (i + 1))
      case measure => omega
      case rel => exact ⟨i + 1, by omega, by go_num, by rw [HT.out, cellsOf_append]; exact hown2, hb2⟩
    · obtain rfl : i = n := by omega
      rw [List.take_of_length_le (by omega)] at hrow
      go_wp2
      go_ret
      exact ⟨_, rfl, by rw [hn]; exact hrow, hb1⟩

theorem cat_arrays (a b : List UInt8) : (⟨a.toArray⟩ : ByteArray) ++ ⟨b.toArray⟩ = ⟨(a ++ b).toArray⟩ := by
  apply ByteArray.ext
  rw [ByteArray.data_append]
  simp
theorem size_array (a : List UInt8) : (⟨a.toArray⟩ : ByteArray).size = a.length := by simp [ByteArray.size]

set_option maxHeartbeats 2000000 in
theorem refEncode_any (A : Option Addr) (c n : Nat) (cs : List Nat) (w : World) (hr : Row .i64 w A cs) (hn : cs.length = n) (hn6 : n ≤ 1000000) (hall : ∀ x ∈ cs, isC x) :
    Calls Tryd.prog 18 #[.slice A n c] w (RetV (.string ⟨(encs cs).toArray⟩) w) := by
  replace hall := Lib.hid hall
  go_enter Tryd.func18, Tryd.ntmps18
  go_wp2_with fail
  go_loopg [3, 8] n (fun m s3 i8 wx => ∃ (i : Nat) (s : ByteArray), i + m = n ∧ i8 = .int .i64 i ∧ s3 = .string s ∧ Hid (s = ⟨(encs (cs.take i)).toArray⟩) ∧ s.size ≤ 4 * i ∧ Below w.heap.size w wx)
  case atStart => exact ⟨0, _, by omega, rfl, rfl, rfl, by decide, Below.refl _ _⟩
  case round =>
    obtain ⟨i, s, hi1, rfl, rfl, hs, hs4, hb1⟩ := hrel
    by_cases hlt : i < n
    · obtain ⟨ad, rfl, _, hc1⟩ := (hr.below hb1).at_ (i := i) (by omega)
      have hxc := hall.out _ (getD_mem (cs := cs) (i := i) (by omega))
      have HT := Lib.hid (take_succ (cs := cs) (i := i) (by omega))
      generalize cs.getD i 0 = x at *
      have HB := Lib.hid fun W => refBytes_any x hxc W
      have hel : (⟨(enc x).toArray⟩ : ByteArray).size ≤ 4 := by rw [size_array, enc_length]; exact wid_le x
      have hcat : s ++ ⟨(enc x).toArray⟩ = ⟨(encs (cs.take (i + 1))).toArray⟩ := by
        rw [hs.out, cat_arrays, HT.out, encs_snoc]
      replace hcat := Lib.hid hcat
      obtain ⟨E, hE⟩ : ∃ E : ByteArray, E = ⟨(enc x).toArray⟩ := ⟨_, rfl⟩
      rw [← hE] at HB hel hcat
      clear hE
      have hov : ¬ 9223372036854775807 < s.size + E.size := by omega
      go_wp2_with fail
      refine (HB.out _).mono ?_
      rintro e w2 ⟨rfl, y2⟩
      go_wp2
      go_roundg (n - (i + 1))
      case measure => omega
      case rel => exact ⟨i + 1, _, by omega, by go_num, rfl, hcat, by rw [ByteArray.size_append]; omega, below_step hb1 y2⟩
    · obtain rfl : i = n := by omega
      rw [List.take_of_length_le (by omega)] at hs
      go_wp2
      go_ret
      exact ⟨by rw [← hs.out]; rfl, hb1⟩
end Go.Proofs.YtobfhidajcnfdabDoor
