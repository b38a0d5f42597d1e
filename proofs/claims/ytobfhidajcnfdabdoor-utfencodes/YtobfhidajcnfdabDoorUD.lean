/-
  The document's Is, Bytes: their contracts.
-/
import Derived.Test.YtobfhidajcnfdabDoorUC
import Derived.Lib.AppendIntMem
namespace Go.Proofs.YtobfhidajcnfdabDoor
set_option linter.unusedVariables false
set_option maxRecDepth 100000
open Go.RowKit Go.Lib

theorem refIs_any (c : Int) (w : World) : Calls Tryd.prog 14 #[.int .i64 c] w (RetV (.bool (isI c)) w) := by
  have hr : (c < 0 ∧ isI c = false) ∨ (0 ≤ c ∧ 1114111 < c ∧ isI c = false) ∨ (0 ≤ c ∧ c ≤ 1114111 ∧ c < 55296 ∧ isI c = true) ∨ (0 ≤ c ∧ c ≤ 1114111 ∧ 55296 ≤ c ∧ c ≤ 57343 ∧ isI c = false) ∨ (0 ≤ c ∧ c ≤ 1114111 ∧ 55296 ≤ c ∧ 57343 < c ∧ isI c = true) := by
    unfold isI
    simp only [decide_eq_true_iff, decide_eq_false_iff_not]
    omega
  go_enter Tryd.func14, Tryd.ntmps14
  rcases hr with ⟨h1, e⟩ | ⟨h1, h2, e⟩ | ⟨h1, h2, h3, e⟩ | ⟨h1, h2, h3, h4, e⟩ | ⟨h1, h2, h3, h4, e⟩ <;> rw [e]
  all_goals
    go_wp2
    go_ret
    refine ⟨?_, Below.refl _ _⟩
    first
      | rfl
      | (simp; omega)

theorem conv_built (w : World) (bs : List UInt8) : (convert 52 9 (.slice (some ⟨w.heap.size, 0, none⟩) bs.length bs.length)).run Tryd.prog (w.alloc (.cells (Lib.byteCells bs).toArray 5)) = .ok (.string ⟨bs.toArray⟩) (w.alloc (.cells (Lib.byteCells bs).toArray 5)) :=
  run_convert_bytes_back (P := Tryd.prog) _ 52 9 5 ⟨w.heap.size, 0, none⟩ bs.length bs Tryd.underlying52 Tryd.underlying5 Tryd.underlying9 (fun j hj => by
    rw [add_zero_block, (Blk.new w 5 (Lib.byteCells bs).toArray).cell]
    simp [Lib.byteCells, hj])

set_option maxHeartbeats 1000000 in
theorem refBytes_any (c : Nat) (hc : isC c) (w : World) : Calls Tryd.prog 17 #[.int .i64 (c : Nat)] w (RetV (.string ⟨(enc c).toArray⟩) w) := by
  have hle := hc.le
  have hcv := conv_built w (enc c)
  obtain ⟨E, hE⟩ : ∃ E, Hid ((enc c).toArray = E) := ⟨_, rfl⟩
  rw [hE.out] at hcv ⊢
  by_cases h1 : c < 128
  · have e0 : (UInt8.ofNat c).toNat = c := toNat_of (by omega)
    rw [enc1 h1] at hcv
    simp only [Lib.byteCells, List.map_cons, List.map_nil, List.length_cons, List.length_nil, Nat.reduceAdd, e0] at hcv
    go_enter Tryd.func17, Tryd.ntmps17
    go_wp2
    go_ret
    exact ⟨rfl, below_new _ _⟩
  by_cases h2 : c < 2048
  · have e0 : (UInt8.ofNat (192 + c / 64)).toNat = 192 + c / 64 := toNat_of (by omega)
    have e1 : (UInt8.ofNat (128 + c % 64)).toNat = 128 + c % 64 := toNat_of (by omega)
    rw [enc2 h1 h2] at hcv
    simp only [Lib.byteCells, List.map_cons, List.map_nil, List.length_cons, List.length_nil, Nat.reduceAdd, e0, e1, Int.natCast_add, Int.natCast_ediv, Int.natCast_emod, Int.cast_ofNat_Int] at hcv
    go_enter Tryd.func17, Tryd.ntmps17
    go_wp2
    go_ret
    exact ⟨rfl, below_new _ _⟩
  obtain ⟨ci, hci⟩ : ∃ ci : Int, (c : Int) = ci := ⟨_, rfl⟩
  by_cases h3 : c < 65536
  · obtain ⟨x, hx⟩ : ∃ x, ci / 4096 = x := ⟨_, rfl⟩
    obtain ⟨y, hy⟩ : ∃ y, ci / 64 % 64 = y := ⟨_, rfl⟩
    obtain ⟨z, hz⟩ : ∃ z, ci % 64 = z := ⟨_, rfl⟩
    have hxl : 0 ≤ x ∧ x < 16 := by omega
    have hyl : 0 ≤ y ∧ y < 64 := by omega
    have hzl : 0 ≤ z ∧ z < 64 := by omega
    have e0 : (UInt8.ofNat (224 + c / 4096)).toNat = 224 + c / 4096 := toNat_of (by omega)
    have e1 : (UInt8.ofNat (128 + c / 64 % 64)).toNat = 128 + c / 64 % 64 := toNat_of (by omega)
    have e2 : (UInt8.ofNat (128 + c % 64)).toNat = 128 + c % 64 := toNat_of (by omega)
    have d0 : ((224 + c / 4096 : Nat) : Int) = 224 + x := by omega
    have d1 : ((128 + c / 64 % 64 : Nat) : Int) = 128 + y := by omega
    have d2 : ((128 + c % 64 : Nat) : Int) = 128 + z := by omega
    rw [enc3 h1 h2 h3] at hcv
    simp only [Lib.byteCells, List.map_cons, List.map_nil, List.length_cons, List.length_nil, Nat.reduceAdd, e0, e1, e2, d0, d1, d2] at hcv
    have i1 : 128 ≤ ci := by omega
    have i2 : 2048 ≤ ci := by omega
    have i3 : ci < 65536 := by omega
    rw [hci]
    obtain ⟨hx0, hx1⟩ := hxl
    obtain ⟨hy0, hy1⟩ := hyl
    obtain ⟨hz0, hz1⟩ := hzl
    clear e0 e1 e2 d0 d1 d2 h1 h2 h3 hle hc hci
    go_enter Tryd.func17, Tryd.ntmps17
    go_wp2
    go_ret
    exact ⟨rfl, below_new _ _⟩
  · obtain ⟨t, ht⟩ : ∃ t, ci / 262144 = t := ⟨_, rfl⟩
    obtain ⟨x, hx⟩ : ∃ x, ci / 4096 % 64 = x := ⟨_, rfl⟩
    obtain ⟨y, hy⟩ : ∃ y, ci / 64 % 64 = y := ⟨_, rfl⟩
    obtain ⟨z, hz⟩ : ∃ z, ci % 64 = z := ⟨_, rfl⟩
    have htl : 0 ≤ t ∧ t < 5 := by omega
    have hxl : 0 ≤ x ∧ x < 64 := by omega
    have hyl : 0 ≤ y ∧ y < 64 := by omega
    have hzl : 0 ≤ z ∧ z < 64 := by omega
    have e0 : (UInt8.ofNat (240 + c / 262144)).toNat = 240 + c / 262144 := toNat_of (by omega)
    have e1 : (UInt8.ofNat (128 + c / 4096 % 64)).toNat = 128 + c / 4096 % 64 := toNat_of (by omega)
    have e2 : (UInt8.ofNat (128 + c / 64 % 64)).toNat = 128 + c / 64 % 64 := toNat_of (by omega)
    have e3 : (UInt8.ofNat (128 + c % 64)).toNat = 128 + c % 64 := toNat_of (by omega)
    have d0 : ((240 + c / 262144 : Nat) : Int) = 240 + t := by omega
    have d1 : ((128 + c / 4096 % 64 : Nat) : Int) = 128 + x := by omega
    have d2 : ((128 + c / 64 % 64 : Nat) : Int) = 128 + y := by omega
    have d3 : ((128 + c % 64 : Nat) : Int) = 128 + z := by omega
    rw [enc4 h1 h2 h3] at hcv
    simp only [Lib.byteCells, List.map_cons, List.map_nil, List.length_cons, List.length_nil, Nat.reduceAdd, e0, e1, e2, e3, d0, d1, d2, d3] at hcv
    have i1 : 128 ≤ ci := by omega
    have i2 : 2048 ≤ ci := by omega
    have i3 : 65536 ≤ ci := by omega
    have i4 : ci ≤ 1114111 := by omega
    rw [hci]
    obtain ⟨ht0, ht1⟩ := htl
    obtain ⟨hx0, hx1⟩ := hxl
    obtain ⟨hy0, hy1⟩ := hyl
    obtain ⟨hz0, hz1⟩ := hzl
    clear e0 e1 e2 e3 d0 d1 d2 d3 h1 h2 h3 hle hc hci
    go_enter Tryd.func17, Tryd.ntmps17
    go_wp2
    go_ret
    exact ⟨rfl, below_new _ _⟩
end Go.Proofs.YtobfhidajcnfdabDoor
