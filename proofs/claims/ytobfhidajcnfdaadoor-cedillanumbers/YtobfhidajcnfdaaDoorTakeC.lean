/-
  The document's Take: its contract.
-/
import Derived.Test.YtobfhidajcnfdaaDoorTakeB
import Derived.BigQuiet
import Derived.Deep.QuietTactic
namespace Go.Proofs.YtobfhidajcnfdaaDoor
set_option linter.unusedVariables false
set_option maxRecDepth 20000
open Go.RowKit

theorem told_sum (s : ByteArray) (h : 4 ≤ s.size) : told s = s[0].toNat * 16777216 + s[1].toNat * 65536 + s[2].toNat * 256 + s[3].toNat := by
  have e : (s.extract 0 4).data.toList = [s[0], s[1], s[2], s[3]] := by
    have hd : 4 ≤ s.data.toList.length := by rw [Array.length_toList]; exact h
    rw [ByteArray.data_extract, Array.toList_extract, List.extract_eq_take_drop]
    apply List.ext_getElem
    · simp; omega
    · intro i h1 h2
      rcases (show i = 0 ∨ i = 1 ∨ i = 2 ∨ i = 3 by simp at h2; omega) with rfl | rfl | rfl | rfl <;> simp <;> rfl
  rw [told, e]
  simp [beVal]
  omega

theorem below_dn (w : World) (n : Nat) : Below w.heap.size w (w.drewN n) := ⟨rfl, rfl, rfl, Nat.le_refl _, fun _ _ => rfl⟩
theorem below_dn2 (w : World) (n m : Nat) : Below w.heap.size w ((w.drewN n).drewN m) := below_step (below_dn w n) (below_dn _ m)

theorem refTake_short (s : ByteArray) (w : World) (h : s.size < 4) : Calls Tryd.prog 24 #[.string s] w (RetV (.tuple #[.string ⟨#[]⟩, .string ⟨#[]⟩, .int .i64 2]) w) := by
  go_enter Tryd.func24, Tryd.ntmps24
  go_wp2
  exact bodyPost_ret (v := .tuple #[.string ⟨#[]⟩, .string ⟨#[]⟩, .int .i64 2]) (by simp [results, Tryd.results24, go_sem]) rfl ⟨rfl, Below.refl _ _⟩

set_option maxHeartbeats 4000000 in
theorem refTake_end (s : ByteArray) (w : World) (hs : s.size ≤ 1000000) (h : ¬ s.size < 4) (ht : s.size - 4 < told s) : Calls Tryd.prog 24 #[.string s] w (RetV (.tuple #[.string ⟨#[]⟩, .string ⟨#[]⟩, .int .i64 2]) w) := by
  have h4 : 4 ≤ s.size := by omega
  have TS := Lib.hid (told_sum s h4)
  have i0 : 0 < s.size := by omega
  have i1 : 1 < s.size := by omega
  have i2 : 2 < s.size := by omega
  have i3 : 3 < s.size := by omega
  have b0 := UInt8.toNat_lt s[0]
  have b1 := UInt8.toNat_lt s[1]
  have b2 := UInt8.toNat_lt s[2]
  have b3 := UInt8.toNat_lt s[3]
  generalize e0 : s[0].toNat = x0 at *
  generalize e1 : s[1].toNat = x1 at *
  generalize e2 : s[2].toNat = x2 at *
  generalize e3 : s[3].toNat = x3 at *
  rw [TS.out] at ht
  go_enter Tryd.func24, Tryd.ntmps24
  go_wp2_with fail
  go_quiet (fail)
  go_wp2
  exact bodyPost_ret (v := .tuple #[.string ⟨#[]⟩, .string ⟨#[]⟩, .int .i64 2]) (by simp [results, Tryd.results24, go_sem]) rfl ⟨rfl, below_dn _ _⟩

set_option maxHeartbeats 4000000 in
theorem refTake_form (s : ByteArray) (w : World) (hs : s.size ≤ 1000000) (h : ¬ s.size < 4) (t : Nat) (htd : Hid (told s = t)) (ht : ¬ s.size - 4 < t) (hp : 0 < t) (h5 : 4 < s.size) (hz : s[4] = 0) : Calls Tryd.prog 24 #[.string s] w (RetV (.tuple #[.string ⟨#[]⟩, .string ⟨#[]⟩, .int .i64 3]) w) := by
  have h4 : 4 ≤ s.size := by omega
  have TS := Lib.hid (told_sum s h4)
  have i0 : 0 < s.size := by omega
  have i1 : 1 < s.size := by omega
  have i2 : 2 < s.size := by omega
  have i3 : 3 < s.size := by omega
  have b0 := UInt8.toNat_lt s[0]
  have b1 := UInt8.toNat_lt s[1]
  have b2 := UInt8.toNat_lt s[2]
  have b3 := UInt8.toNat_lt s[3]
  generalize e0 : s[0].toNat = x0 at *
  generalize e1 : s[1].toNat = x1 at *
  generalize e2 : s[2].toNat = x2 at *
  generalize e3 : s[3].toNat = x3 at *
  have hsum : (x0 : Int) * 16777216 + (x1 : Int) * 65536 + (x2 : Int) * 256 + (x3 : Int) = (t : Int) := by have := TS.out; have := htd.out; omega
  have hte : 4 + t ≤ s.size := by omega
  have h1' : (0 : Int) < (t : Int) := by omega
  clear TS htd ht hp
  have hx : s[4].toNat = 0 := by rw [hz]; rfl
  clear hz
  go_enter Tryd.func24, Tryd.ntmps24
  go_wp2_with fail
  go_quiet (fail)
  go_wp2
  exact bodyPost_ret (v := .tuple #[.string ⟨#[]⟩, .string ⟨#[]⟩, .int .i64 3]) (by simp [results, Tryd.results24, go_sem]) rfl ⟨rfl, below_dn _ _⟩

set_option maxHeartbeats 4000000 in
theorem refTake_ok (s : ByteArray) (w : World) (t : Nat) (hs : s.size ≤ 1000000) (h : ¬ s.size < 4) (htd : Hid (told s = t)) (ht : ¬ s.size - 4 < t) (hz : ∀ h5 : 4 < s.size, 0 < t → s[4] ≠ 0) : Calls Tryd.prog 24 #[.string s] w (RetV (.tuple #[.string (s.extract 4 (4 + t)), .string (s.extract (4 + t) s.size), .int .i64 0]) w) := by
  have h4 : 4 ≤ s.size := by omega
  have TS := Lib.hid (told_sum s h4)
  have i0 : 0 < s.size := by omega
  have i1 : 1 < s.size := by omega
  have i2 : 2 < s.size := by omega
  have i3 : 3 < s.size := by omega
  have b0 := UInt8.toNat_lt s[0]
  have b1 := UInt8.toNat_lt s[1]
  have b2 := UInt8.toNat_lt s[2]
  have b3 := UInt8.toNat_lt s[3]
  generalize e0 : s[0].toNat = x0 at *
  generalize e1 : s[1].toNat = x1 at *
  generalize e2 : s[2].toNat = x2 at *
  generalize e3 : s[3].toNat = x3 at *
  have hsum : (x0 : Int) * 16777216 + (x1 : Int) * 65536 + (x2 : Int) * 256 + (x3 : Int) = (t : Int) := by have := TS.out; have := htd.out; omega
  have hte : 4 + t ≤ s.size := by omega
  clear TS htd ht
  go_enter Tryd.func24, Tryd.ntmps24
  go_wp2_with fail
  go_quiet (fail)
  rcases Nat.eq_zero_or_pos t with h1 | h1
  · have h1' : (t : Int) ≤ 0 := by omega
    clear h1
    go_wp2_with fail
    go_quiet (fail)
    go_wp2
    exact bodyPost_ret (v := .tuple #[.string (s.extract 4 (4 + t)), .string (s.extract (4 + t) s.size), .int .i64 0]) (by simp [results, Tryd.results24, go_sem]) rfl ⟨rfl, below_dn2 _ _ _⟩
  · have h5 : 4 < s.size := by omega
    have hx : ((s[4].toNat : Int) == 0) = false := by
      rw [beq_eq_false_iff_ne]
      intro e
      exact hz h5 h1 (UInt8.toNat_inj.1 (by simpa using e))
    have h1' : (0 : Int) < (t : Int) := by omega
    go_wp2_with fail
    go_quiet (fail)
    go_wp2
    exact bodyPost_ret (v := .tuple #[.string (s.extract 4 (4 + t)), .string (s.extract (4 + t) s.size), .int .i64 0]) (by simp [results, Tryd.results24, go_sem]) rfl ⟨rfl, below_dn2 _ _ _⟩
end Go.Proofs.YtobfhidajcnfdaaDoor
