/-
  field.HexText, the document's: their contracts.
-/
import Derived.Test.YtanpncjnojjmkaaDoorWords
import Derived.Test.YtanpncjnojjmkaaDoorFMath
import Derived.Test.YtanpncjnojjmkaaDoorChecked
import Derived.Lib.AppendIntMem
import Derived.IntWalk
namespace Go.Proofs.YtanpncjnojjmkaaDoor
set_option linter.unusedVariables false
set_option maxRecDepth 20000
open Go.RowKit Go.Lib

theorem byte_info : (Tryd.prog.info? 5).map (fun i => (i.zero, i.size, i.bytes)) = some (some (.int .u8 0), 1, 1) := by kernel_rfl
/-- A block of bytes. -/
def byB (l : List UInt8) : Array Value := (Lib.byteCells l).toArray
theorem byB_get (l : List UInt8) {i : Nat} (h : i < l.length) : (byB l)[i]? = some (.int .u8 ((l.getD i 0).toNat : Int)) := by
  simp [byB, Lib.byteCells, List.getD, h]
theorem byB_set (l : List UInt8) (i : Nat) (b : UInt8) : (byB l).setIfInBounds i (.int .u8 (b.toNat : Int)) = byB (l.set i b) := by
  simp [byB, Lib.byteCells, List.map_set]
theorem made_zeros (z : Value) (n : Nat) (hz : z.cells = #[z]) : madeCells z.cells n = (List.replicate n z).toArray := by
  rw [hz]
  apply Array.ext
  · simp [size_madeCells]
  · intro i h1 h2
    simp [madeCells, Nat.mod_one]
theorem make_bytes (w : World) (n : Nat) (hn : n ≤ 100000000) : (Instr.makeSlice 49 (.int .i64 n) (.int .i64 n)).run Tryd.prog w = .ok (.slice (some ⟨w.heap.size, 0, none⟩) n n) (w.alloc (.cells (byB (List.replicate n 0)) 5)) := by
  obtain ⟨i0, hi0, hz0, hz1, hz2⟩ := info_parts byte_info
  have h := run_make (P := Tryd.prog) w 49 5 i0 (.int .u8 0) Tryd.underlying49 hi0 hz0 .i64 .i64 n n (by omega) (by omega) (by rw [hz2]; omega) (by omega)
  rw [h, hz1, made_zeros _ _ rfl]
  simp [byB, Lib.byteCells]
theorem conv_blk {w : World} {g : Nat} {bs : List UInt8} (n : Nat) (hn : bs.length = n) (h : Blk w g 5 (byB bs)) : (convert 49 9 (.slice (some ⟨g, 0, none⟩) n n)).run Tryd.prog w = .ok (.string ⟨bs.toArray⟩) w := by
  subst hn
  exact run_convert_bytes_back (P := Tryd.prog) _ 49 9 5 ⟨g, 0, none⟩ bs.length bs Tryd.underlying49 Tryd.underlying5 Tryd.underlying9 (fun j hj => by
    rw [add_zero_block, h.cell]
    simp [byB, Lib.byteCells, hj])
theorem fill_step (k i n : Nat) (h : i < k) : (List.replicate (k - i) 0 ++ hexT i n).set (k - 1 - i) (hd (n / 16 ^ i % 16)) = List.replicate (k - (i + 1)) 0 ++ hexT (i + 1) n := by
  obtain ⟨m, hm⟩ : ∃ m, k - i = m + 1 := ⟨k - i - 1, by omega⟩
  rw [hm, show k - 1 - i = m by omega, show k - (i + 1) = m by omega, hexT, List.replicate_succ', List.append_assoc, List.set_append_right _ _ (by simp)]
  simp

theorem tab_all : ∀ d : Fin 16, (⟨#[48, 49, 50, 51, 52, 53, 54, 55, 56, 57, 65, 66, 67, 68, 69, 70]⟩ : ByteArray)[d.1]'(d.2) = hd d.1 := by decide
theorem tab_at {d : Nat} (h : d < (⟨#[48, 49, 50, 51, 52, 53, 54, 55, 56, 57, 65, 66, 67, 68, 69, 70]⟩ : ByteArray).size) : (⟨#[48, 49, 50, 51, 52, 53, 54, 55, 56, 57, 65, 66, 67, 68, 69, 70]⟩ : ByteArray)[d] = hd d := tab_all ⟨d, h⟩
theorem shr4 (n i : Nat) : (n : Int) / 2 ^ (4 * i) = ((n / 16 ^ i : Nat) : Int) := by
  have h : (2 : Nat) ^ (4 * i) = 16 ^ i := by rw [Nat.pow_mul]
  rw [← h, Int.natCast_ediv, Int.natCast_pow]
  rfl

set_option maxHeartbeats 4000000 in
theorem hexText_any (n : Nat) (hn : n ≤ 1114111) (w : World) : Calls Tryd.prog 18 #[.int .i32 (n : Nat)] w (RetV (.string ⟨(hexText n).toArray⟩) w) := by
  have M4 : (Instr.makeSlice 49 (.int .i64 4) (.int .i64 4)).run Tryd.prog w = .ok (.slice (some ⟨w.heap.size, 0, none⟩) 4 4) (w.alloc (.cells (byB (List.replicate 4 0)) 5)) := make_bytes w 4 (by omega)
  have M5 : (Instr.makeSlice 49 (.int .i64 5) (.int .i64 5)).run Tryd.prog w = .ok (.slice (some ⟨w.heap.size, 0, none⟩) 5 5) (w.alloc (.cells (byB (List.replicate 5 0)) 5)) := make_bytes w 5 (by omega)
  have M6 : (Instr.makeSlice 49 (.int .i64 6) (.int .i64 6)).run Tryd.prog w = .ok (.slice (some ⟨w.heap.size, 0, none⟩) 6 6) (w.alloc (.cells (byB (List.replicate 6 0)) 5)) := make_bytes w 6 (by omega)
  have E : wd n = if n < 65536 then 4 else if n < 1048576 then 5 else 6 := rfl
  go_enter Tryd.func18, Tryd.ntmps18
  go_wp2
  go_loop [3] (fun d => ∃ k : Nat, (k = 4 ∨ (k = 5 ∧ 65536 ≤ n) ∨ (k = 6 ∧ 1048576 ≤ n)) ∧ d = .int .i64 k) (fun d => 10 - (intOf d).toNat)
  case atStart => exact ⟨4, .inl rfl, rfl⟩
  case round =>
    obtain ⟨k, hk, rfl⟩ := hrel
    rcases hk with rfl | ⟨rfl, h5⟩ | ⟨rfl, h6⟩
    · by_cases h : 65536 ≤ n
      · go_wp2
        go_round
        case rel => exact ⟨5, .inr (.inl ⟨rfl, h⟩), rfl⟩
        case measure => simp [intOf]
      · rw [if_pos (by omega)] at E
        go_wp2
        go_loopw [22] (fun t wr => ∃ i : Nat, t = .int .i64 i ∧ i ≤ 4 ∧ Blk wr w.heap.size 5 (byB (List.replicate (4 - i) 0 ++ hexT i n)) ∧ Below w.heap.size w wr) (fun t _ => 4 - (intOf t).toNat)
        case atStart => exact ⟨0, rfl, by omega, by simpa [hexT] using Blk.new w 5 (byB (List.replicate 4 0)), below_new _ _⟩
        case round =>
          obtain ⟨i, rfl, hi, hB, hb⟩ := hrel
          by_cases hlt : i < 4
          · have hc := (hB.cell (3 - i)).trans (byB_get _ (by simp [hexT_length]; omega))
            have hf := hB.free (3 - i)
            have hq := shr4 n i
            have hst := fill_step 4 i n hlt
            have hB2 := hB.set_ (3 - i) (.int .u8 ((hd (n / 16 ^ i % 16)).toNat : Int))
            rw [byB_set, hst] at hB2
            have hb2 := hb.setCell (p := ⟨w.heap.size, 3 - i, none⟩) (Nat.le_refl _) (.int .u8 ((hd (n / 16 ^ i % 16)).toNat : Int))
            clear hst
            generalize n / 16 ^ i = q at *
            have hdt : (q : Int).tmod 16 = ((q % 16 : Nat) : Int) := by rw [Int.tmod_eq_emod_of_nonneg (by omega)]; omega
            have hdl : q % 16 < 16 := Nat.mod_lt _ (by decide)
            generalize q % 16 = d at *
            go_wp2
            go_roundw
            case rel =>
              refine ⟨i + 1, by go_num, by omega, ?_, ?_⟩
              · simpa only [Int.toNat_natCast, tab_at] using hB2
              · simpa only [Int.toNat_natCast, tab_at] using hb2
            case measure => simp [intOf]; omega
          · obtain rfl : i = 4 := by omega
            have hcv := conv_blk 4 (by simp [hexT_length]) hB
            rw [Nat.sub_self, List.replicate_zero, List.nil_append] at hcv
            go_wp2
            go_ret
            exact ⟨by rw [hexText, E]; rfl, hb⟩
    · by_cases h : 1048576 ≤ n
      · go_wp2
        go_round
        case rel => exact ⟨6, .inr (.inr ⟨rfl, h⟩), rfl⟩
        case measure => simp [intOf]
      · rw [if_neg (by omega), if_pos (by omega)] at E
        go_wp2
        go_loopw [22] (fun t wr => ∃ i : Nat, t = .int .i64 i ∧ i ≤ 5 ∧ Blk wr w.heap.size 5 (byB (List.replicate (5 - i) 0 ++ hexT i n)) ∧ Below w.heap.size w wr) (fun t _ => 5 - (intOf t).toNat)
        case atStart => exact ⟨0, rfl, by omega, by simpa [hexT] using Blk.new w 5 (byB (List.replicate 5 0)), below_new _ _⟩
        case round =>
          obtain ⟨i, rfl, hi, hB, hb⟩ := hrel
          by_cases hlt : i < 5
          · have hc := (hB.cell (4 - i)).trans (byB_get _ (by simp [hexT_length]; omega))
            have hf := hB.free (4 - i)
            have hq := shr4 n i
            have hst := fill_step 5 i n hlt
            have hB2 := hB.set_ (4 - i) (.int .u8 ((hd (n / 16 ^ i % 16)).toNat : Int))
            rw [byB_set, hst] at hB2
            have hb2 := hb.setCell (p := ⟨w.heap.size, 4 - i, none⟩) (Nat.le_refl _) (.int .u8 ((hd (n / 16 ^ i % 16)).toNat : Int))
            clear hst
            generalize n / 16 ^ i = q at *
            have hdt : (q : Int).tmod 16 = ((q % 16 : Nat) : Int) := by rw [Int.tmod_eq_emod_of_nonneg (by omega)]; omega
            have hdl : q % 16 < 16 := Nat.mod_lt _ (by decide)
            generalize q % 16 = d at *
            go_wp2
            go_roundw
            case rel =>
              refine ⟨i + 1, by go_num, by omega, ?_, ?_⟩
              · simpa only [Int.toNat_natCast, tab_at] using hB2
              · simpa only [Int.toNat_natCast, tab_at] using hb2
            case measure => simp [intOf]; omega
          · obtain rfl : i = 5 := by omega
            have hcv := conv_blk 5 (by simp [hexT_length]) hB
            rw [Nat.sub_self, List.replicate_zero, List.nil_append] at hcv
            go_wp2
            go_ret
            exact ⟨by rw [hexText, E]; rfl, hb⟩
    · rw [if_neg (by omega), if_neg (by omega)] at E
      go_wp2
      go_loopw [22] (fun t wr => ∃ i : Nat, t = .int .i64 i ∧ i ≤ 6 ∧ Blk wr w.heap.size 5 (byB (List.replicate (6 - i) 0 ++ hexT i n)) ∧ Below w.heap.size w wr) (fun t _ => 6 - (intOf t).toNat)
      case atStart => exact ⟨0, rfl, by omega, by simpa [hexT] using Blk.new w 5 (byB (List.replicate 6 0)), below_new _ _⟩
      case round =>
        obtain ⟨i, rfl, hi, hB, hb⟩ := hrel
        by_cases hlt : i < 6
        · have hc := (hB.cell (5 - i)).trans (byB_get _ (by simp [hexT_length]; omega))
          have hf := hB.free (5 - i)
          have hq := shr4 n i
          have hst := fill_step 6 i n hlt
          have hB2 := hB.set_ (5 - i) (.int .u8 ((hd (n / 16 ^ i % 16)).toNat : Int))
          rw [byB_set, hst] at hB2
          have hb2 := hb.setCell (p := ⟨w.heap.size, 5 - i, none⟩) (Nat.le_refl _) (.int .u8 ((hd (n / 16 ^ i % 16)).toNat : Int))
          clear hst
          generalize n / 16 ^ i = q at *
          have hdt : (q : Int).tmod 16 = ((q % 16 : Nat) : Int) := by rw [Int.tmod_eq_emod_of_nonneg (by omega)]; omega
          have hdl : q % 16 < 16 := Nat.mod_lt _ (by decide)
          generalize q % 16 = d at *
          go_wp2
          go_roundw
          case rel =>
            refine ⟨i + 1, by go_num, by omega, ?_, ?_⟩
            · simpa only [Int.toNat_natCast, tab_at] using hB2
            · simpa only [Int.toNat_natCast, tab_at] using hb2
          case measure => simp [intOf]; omega
        · obtain rfl : i = 6 := by omega
          have hcv := conv_blk 6 (by simp [hexT_length]) hB
          rw [Nat.sub_self, List.replicate_zero, List.nil_append] at hcv
          go_wp2
          go_ret
          exact ⟨by rw [hexText, E]; rfl, hb⟩
end Go.Proofs.YtanpncjnojjmkaaDoor
