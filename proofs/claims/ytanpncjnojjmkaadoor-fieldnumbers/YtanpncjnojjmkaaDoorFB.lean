/-
  field.Hex, the document's HexText and Hex: their contracts.
-/
import Derived.Test.YtanpncjnojjmkaaDoorFA
namespace Go.Proofs.YtanpncjnojjmkaaDoor
set_option linter.unusedVariables false
set_option maxRecDepth 20000
open Go.RowKit Go.Lib

theorem cat_arrays (a b : List UInt8) : (⟨a.toArray⟩ : ByteArray) ++ ⟨b.toArray⟩ = ⟨(a ++ b).toArray⟩ := by
  apply ByteArray.ext
  simp [ByteArray.data_append]
theorem byB_one (x : Int) (b : UInt8) (h : x = (b.toNat : Int)) : #[Value.int .u8 x] = byB [b] := by rw [h]; rfl
theorem conv_one (w : World) (b : UInt8) (x : Int) (h : x = (b.toNat : Int)) : (convert 49 9 (.slice (some ⟨w.heap.size, 0, none⟩) 1 1)).run Tryd.prog (w.alloc (.cells #[.int .u8 x] 5)) = .ok (.string ⟨#[b]⟩) (w.alloc (.cells #[.int .u8 x] 5)) := by
  rw [byB_one x b h]
  exact conv_blk 1 rfl (Blk.new w 5 (byB [b]))

set_option maxHeartbeats 2000000 in
theorem refHexText_any (n : Nat) (hn : n < 16777216) (w : World) : Calls Tryd.prog 19 #[.int .i64 (n : Nat)] w (RetV (.string ⟨(hexText n).toArray⟩) w) := by
  go_enter Tryd.func19, Tryd.ntmps19
  go_wp2
  go_loopw [0, 3, 4] (fun a s t wr => ∃ i : Nat, t = .int .i64 i ∧ a = .int .i64 ((n / 16 ^ i : Nat) : Int) ∧ s = .string ⟨(hexT i n).toArray⟩ ∧ i ≤ wd n ∧ Below w.heap.size w wr) (fun _ _ t _ => 8 - (intOf t).toNat)
  case atStart => exact ⟨0, rfl, by simp, rfl, by omega, Below.refl _ _⟩
  case round =>
    obtain ⟨i, rfl, rfl, rfl, hi, hb⟩ := hrel
    have hwr := wd_range n
    have hstop : (i < 4 ∨ 0 < n / 16 ^ i) ↔ i < wd n := by
      have key : ∀ j, 0 < n / 16 ^ j ↔ 16 ^ j ≤ n := fun j => by rw [Nat.div_pos_iff]; exact ⟨fun h => h.2, fun h => ⟨Nat.pow_pos (by decide), h⟩⟩
      rw [key]
      unfold wd
      have : i < 4 ∨ i = 4 ∨ i = 5 ∨ i = 6 := by omega
      rcases this with h | rfl | rfl | rfl
      · have : i < if n < 65536 then 4 else if n < 1048576 then 5 else 6 := by repeat (first | split | omega)
        exact ⟨fun _ => this, fun _ => .inl h⟩
      · show (4 < 4 ∨ 65536 ≤ n) ↔ _
        repeat (first | split | omega)
      · show (5 < 4 ∨ 1048576 ≤ n) ↔ _
        repeat (first | split | omega)
      · show (6 < 4 ∨ 16777216 ≤ n) ↔ _
        repeat (first | split | omega)
    by_cases hlt : i < wd n
    · have hor := hstop.2 hlt
      obtain ⟨q, hq⟩ : ∃ q, n / 16 ^ i = q := ⟨_, rfl⟩
      have hq1 : n / 16 ^ (i + 1) = q / 16 := by rw [Nat.pow_succ, ← Nat.div_div_eq_div_mul, hq]
      have hTs : hexT (i + 1) n = hd (q % 16) :: hexT i n := by rw [hexT, hq]
      rw [hq] at hor ⊢
      have hqb : q < 16777216 := by rw [← hq]; exact Nat.lt_of_le_of_lt (Nat.div_le_self _ _) hn
      have hdl : q % 16 < 16 := Nat.mod_lt _ (by decide)
      have hcat := Lib.hid (cat_arrays [hd (q % 16)] (hexT i n))
      have hTl : (hexT i n).length ≤ 6 := by rw [hexT_length]; omega
      have HT := Lib.hid hTs
      have HQ := Lib.hid hq1
      clear hTs hq1 hq hstop
      generalize hexT i n = T at *
      generalize wd n = W at *
      by_cases h10 : q % 16 < 10
      · have hcv := conv_one wr (hd (q % 16)) (48 + (q : Int) % 16) (by rw [hd_toNat hdl, if_pos h10]; omega)
        by_cases h4 : i < 4
        · go_wp2
          go_roundw
          case rel => exact ⟨i + 1, by go_num, by rw [HQ.out]; go_num, by rw [HT.out]; exact congrArg Value.string hcat.out, by omega, below_step hb (below_new _ _)⟩
          case measure => simp [intOf]; omega
        · have hq0 : 0 < q := by omega
          go_wp2
          go_roundw
          case rel => exact ⟨i + 1, by go_num, by rw [HQ.out]; go_num, by rw [HT.out]; exact congrArg Value.string hcat.out, by omega, below_step hb (below_new _ _)⟩
          case measure => simp [intOf]; omega
      · have hcv := conv_one wr (hd (q % 16)) (55 + (q : Int) % 16) (by rw [hd_toNat hdl, if_neg h10]; omega)
        by_cases h4 : i < 4
        · go_wp2
          go_roundw
          case rel => exact ⟨i + 1, by go_num, by rw [HQ.out]; go_num, by rw [HT.out]; exact congrArg Value.string hcat.out, by omega, below_step hb (below_new _ _)⟩
          case measure => simp [intOf]; omega
        · have hq0 : 0 < q := by omega
          go_wp2
          go_roundw
          case rel => exact ⟨i + 1, by go_num, by rw [HQ.out]; go_num, by rw [HT.out]; exact congrArg Value.string hcat.out, by omega, below_step hb (below_new _ _)⟩
          case measure => simp [intOf]; omega
    · have hno : ¬ (i < 4 ∨ 0 < n / 16 ^ i) := fun h => hlt (hstop.1 h)
      obtain rfl : i = wd n := by omega
      have e : ({ data := (hexT (wd n) n).toArray } : ByteArray) = { data := (hexText n).toArray } := rfl
      rw [e]
      clear hstop e
      generalize n / 16 ^ wd n = q at *
      have h4 : ¬ wd n < 4 := by omega
      have hq0 : q = 0 := by omega
      subst hq0
      generalize wd n = i at *
      go_wp2
      go_ret
      exact ⟨rfl, hb⟩
end Go.Proofs.YtanpncjnojjmkaaDoor
