/-
  The document's Num: the digits of bytes.
-/
import Derived.Test.YtobfhidajcnfdaaDoorTakeC
import Derived.Test.YtobfhidajcnfdaaDoorRefC
namespace Go.Proofs.YtobfhidajcnfdaaDoor
set_option linter.unusedVariables false
set_option maxRecDepth 20000
open Go.RowKit

set_option maxHeartbeats 2000000 in
theorem num_any (s : ByteArray) (w : World) (hs : s.size ≤ 10000) : Calls Tryd.prog 25 #[.string s] w (RetD (10 * s.size) (beVal s.data.toList) w) := by
  go_enter Tryd.func25, Tryd.ntmps25
  go_wp2
  go_loopw [3, 4] (fun v t wr => ∃ i : Nat, i ≤ s.size ∧ t = .int .i64 i ∧ IsD wr v (10 * i) (beVal (s.data.toList.take i)) ∧ Below w.heap.size w wr) (fun _ t _ => s.size - (intOf t).toNat)
  case atStart => exact ⟨0, by omega, rfl, ⟨[], ⟨_, 0, rfl, Arr.empty, by simp⟩, Norm.nil _, rfl, by simp⟩, below_new _ _⟩
  case round =>
    obtain ⟨i, hi, rfl, hD, hbw⟩ := hrel
    by_cases hil : i < s.size
    · have hib : i < s.data.toList.length := by rw [Array.length_toList]; exact hil
      have HB := Lib.hid (beVal_take (List.getElem?_eq_getElem hib))
      have hby : s.data.toList[i].toNat < 256 := UInt8.toNat_lt _
      have HT := Lib.hid (timesD_any u3 (10 * i) _ 256 s.data.toList[i].toNat _ hD (by omega) (by decide) (by omega))
      generalize hbe : s.data.toList[i].toNat = b at *
      have hbe' : s[i].toNat = b := hbe
      obtain ⟨A3, n3, c3, rfl⟩ := hD.shape
      go_wp2_with fail
      refine HT.out.mono ?_
      rintro e w2 ⟨v2, rfl, hD2, y2⟩
      obtain ⟨A2, n2, c2, rfl⟩ := hD2.shape
      go_wp2
      go_roundw
      case rel => exact ⟨i + 1, by omega, by go_num, by rw [HB.out]; exact hD2, below_step hbw y2⟩
      case measure => simp [intOf]; omega
    · obtain rfl : i = s.size := by omega
      rw [List.take_of_length_le (by rw [Array.length_toList]; exact Nat.le_refl _)] at hD
      obtain ⟨A3, n3, c3, rfl⟩ := hD.shape
      go_wp2
      go_ret
      exact ⟨_, rfl, hD, hbw⟩
end Go.Proofs.YtobfhidajcnfdaaDoor
