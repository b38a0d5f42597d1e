/-
  pages: Cells.
-/
import Derived.Test.YtblakfpacommfaaPR
namespace Go.Proofs.Ytblakfpacommfaa
set_option linter.unusedVariables false
set_option maxRecDepth 20000
open Go.RowKit

/-- The cells below m that are not nought, as the program has them. -/
def cellsZ (f : Nat → Nat) (m : Nat) : List (Int × Nat) := (cellsTo f m).map fun p => ((p.1 : Int), p.2)
theorem cellsZ_zero (f : Nat → Nat) : cellsZ f 0 = [] := rfl
theorem cellsZ_skip {f : Nat → Nat} {m : Nat} (h : f m = 0) : cellsZ f (m + 1) = cellsZ f m := by unfold cellsZ; rw [cellsTo, if_pos h]
theorem cellsZ_more {f : Nat → Nat} {m : Nat} (h : f m ≠ 0) : cellsZ f (m + 1) = cellsZ f m ++ [((m : Int), f m)] := by unfold cellsZ; rw [cellsTo, if_neg h, List.map_append]; rfl
theorem cellsZ_le (f : Nat → Nat) (m : Nat) : (cellsZ f m).length ≤ m := by unfold cellsZ; rw [List.length_map]; exact cellsTo_le f m
/-- It answers cells in a row of its own. -/
def RetCs (L : List (Int × Nat)) (w : World) (e : Ending) (w' : World) : Prop := ∃ v, e = .returned v ∧ w'.ownsRow w.heap.size 38 2 v L.length (owC L) ∧ Below w.heap.size w w'

def whs (W : Nat → Nat) : Array Value := ((List.range 4352).map fun a => Value.int .u16 (W a : Nat)).toArray
theorem whs_at (W : Nat → Nat) {a : Nat} (h : a < 4352) : (whs W)[a]? = some (.int .u16 (W a : Nat)) := by simp [whs, h]
theorem whs_size (W : Nat → Nat) : (whs W).size = 4352 := by simp [whs]
theorem load51_list {ops : Array Oper} {rest : List Oper} {op : Oper} {a : Act} {w : World} {Q : Exit → Act → World → Prop} {g : Nat} {W : Nat → Nat} (hgd : op.guard = none) (x : Operand) (ho : op.op = .load 51 x)
    (hx : a.eval x = .pointer (some ⟨g, 1, none⟩)) (hb : ∀ i, i < 4352 → w.cell? ⟨g, 1 + i, none⟩ = some (.int .u16 (W i : Nat))) (h : wpList Try.prog ops Q rest (a.put op.dst (.agg (whs W))) w) : wpList Try.prog ops Q (op :: rest) a w :=
  wpList_load_mid hgd 51 x ho g 1 hx (whs W).toList (.array 4352 32) (fun j v hv => by
    have hj : j < 4352 := by
      rcases Nat.lt_or_ge j 4352 with h1 | h1
      · exact h1
      · rw [List.getElem?_eq_none (by rw [Array.length_toList, whs_size]; exact h1)] at hv; cases hv
    rw [hb j hj, ← whs_at W hj]
    simpa using hv) Try.underlying51 rfl (by rw [Array.length_toList, whs_size]; kernel_rfl) h
theorem load48_mid {ops : Array Oper} {rest : List Oper} {op : Oper} {a : Act} {w : World} {Q : Exit → Act → World → Prop} {g o : Nat} {f : Nat → Nat} (hgd : op.guard = none) (x : Operand) (ho : op.op = .load 48 x)
    (hx : a.eval x = .pointer (some ⟨g, o, none⟩)) (hb : ∀ i, i < 256 → w.cell? ⟨g, o + i, none⟩ = some (.int .u16 (f i : Nat))) (h : wpList Try.prog ops Q rest (a.put op.dst (.agg (blkOf f))) w) : wpList Try.prog ops Q (op :: rest) a w :=
  wpList_load_mid hgd 48 x ho g o hx (blkOf f).toList (.array 256 32) (fun j v hv => by
    have hj : j < 256 := by
      rcases Nat.lt_or_ge j 256 with h1 | h1
      · exact h1
      · rw [List.getElem?_eq_none (by rw [Array.length_toList, blkOf_size]; exact h1)] at hv; cases hv
    rw [hb j hj, ← blkOf_at f hj]
    simpa using hv) Try.underlying48 rfl (by rw [Array.length_toList, blkOf_size]; kernel_rfl) h
theorem index51 {cs : Array Value} {a : Nat} {v : Value} (ha : a < 4352) (h : cs[a]? = some v) (w : World) : (Instr.index 51 (.agg cs) (.int .i64 (a : Int))).run Try.prog w = .ok v w := by
  have h1 : (0 : Int) ≤ (a : Int) ∧ (a : Int) < ((4352 : Nat) : Int) := by omega
  simp [Instr.index, asIntOf, run_underlying Try.underlying51, go_sem, h1, part, h, ha]
theorem index48 {cs : Array Value} {a : Nat} {v : Value} (ha : a < 256) (h : cs[a]? = some v) (w : World) : (Instr.index 48 (.agg cs) (.int .i64 (a : Int))).run Try.prog w = .ok v w := by
  have h1 : (0 : Int) ≤ (a : Int) ∧ (a : Int) < ((256 : Nat) : Int) := by omega
  simp [Instr.index, asIntOf, run_underlying Try.underlying48, go_sem, h1, part, h, ha]

set_option maxHeartbeats 4000000 in
theorem cells_any {f : Nat → Nat} {n : Nat} {K : Nat → Nat → Nat} {W : Nat → Nat} (ho : PagesOf f n K W) (hf : ∀ c, f c < 65536) (w : World) (g : Nat) (hp : PagesAt w g n K W) :
    Calls Try.prog 11 #[.pointer (some ⟨g, 0, none⟩)] w (RetCs (cellsZ f 1114112) w) := by
  obtain ⟨i2, hi2, hq0, hq1, hq2⟩ := info_parts info38
  have HP := Lib.hid fun W' (hb : Below w.heap.size w W') => hp.below hb
  have HV := Lib.hid fun a i (ha : a < 4352) (hi : i < 256) => ho.val a i ha hi
  have hf' := Lib.hid hf
  obtain ⟨hg, ⟨h, o, q, hh, hk, hc⟩, hw, hn, hlt⟩ := hp
  have HW := Lib.hid hw
  have HLT := Lib.hid hlt
  have HC := Lib.hid hc
  have hix := Lib.hid fun a (ha : a < 4352) W' => index51 ha (whs_at W ha) W'
  have hiy := Lib.hid fun (k : Nat → Nat) a (ha : a < 256) W' => index48 ha (blkOf_at k ha) W'
  clear ho hf hw hlt hc
  go_enter Try.func11, Try.ntmps11
  go_wp2_with (refine load51_list rfl (.tmp 10) rfl rfl HW.out ?_)
  generalize whs W = ws at *
  go_loopw [12, 3] (fun s t wr => ∃ (a k : Nat), s = .int .i64 (a : Int) ∧ a ≤ 4352 ∧ wr.ownsRow w.heap.size 38 2 t k (owC (cellsZ f (a * 256))) ∧ (cellsZ f (a * 256)).length = k ∧ Below w.heap.size w wr) (fun s _ _ => 4352 - (intOf s).toNat)
  case atStart => exact ⟨0, 0, rfl, by omega, World.ownsRow_nil _ _ _ _, rfl, Below.refl _ _⟩
  case round =>
    obtain ⟨a, k, rfl, ha0, hu, hkl, hb⟩ := hrel
    have HKL := Lib.hid hkl
    clear hkl
    obtain ⟨uA, uq, rfl⟩ := own_len' hu
    by_cases ha : a < 4352
    · have hixa := hix.out a ha
      have hj := HLT.out a ha
      have hva := Lib.hid fun i hi => HV.out a i ha hi
      have hcj := Lib.hid fun i (hi : i < 256) => (hb.cell (p := ⟨h, o + W a * 256 + i, none⟩) hh).trans (HC.out (W a) i hj hi)
      have hk' := (hb.cell (p := ⟨g, 0, none⟩) hg).trans hk
      generalize W a = j at *
      have z1 : (0 : Int) ≤ (j : Int) := by omega
      have z2 : (j : Int) < (n : Int) := by omega
      have hcell : Hid (∀ i, i < 256 → wr.cell? ⟨h, o + j * 256 + i, none⟩ = some (.int .u16 (f (a * 256 + i) : Nat))) := Lib.hid fun i hi => by rw [hcj.out i hi, hva.out i hi]
      have hiyf := Lib.hid fun i (hi : i < 256) => hiy.out (fun i => f (a * 256 + i)) i hi
      clear hcj hva
      have htest : decide ((a : Int) < 4352) = true := decide_eq_true (by omega)
      go_wp2_with (refine load48_mid (f := fun i => f (a * 256 + i)) rfl (.tmp 21) rfl rfl hcell.out ?_)
      generalize blkOf (fun i => f (a * 256 + i)) = bs at *
      generalize wr = w1 at *
      go_loopw [23, 3] (fun s t wr => ∃ (i k : Nat), s = .int .i64 (i : Int) ∧ i ≤ 256 ∧ wr.ownsRow w.heap.size 38 2 t k (owC (cellsZ f (a * 256 + i))) ∧ (cellsZ f (a * 256 + i)).length = k ∧ Below w.heap.size w wr) (fun s _ _ => 256 - (intOf s).toNat)
      case atStart => exact ⟨0, k, rfl, by omega, hu, HKL.out, hb⟩
      case round =>
        obtain ⟨i, k2, rfl, hi0, hu2, hkl2, hb2⟩ := hrel
        have HKL2 := Lib.hid hkl2
        clear hkl2
        obtain ⟨uB, ur, rfl⟩ := own_len' hu2
        by_cases hi : i < 256
        · have hiya := hiyf.out i hi
          have hfl := hf'.out (a * 256 + i)
          have hle := cellsZ_le f (a * 256 + i)
          rw [HKL2.out] at hle
          by_cases hz : f (a * 256 + i) = 0
          · have hzz := Lib.hid (cellsZ_skip hz)
            rw [hz] at hiya
            go_wp2
            go_roundw
            case rel => exact ⟨i + 1, k2, by go_num, by omega, by rw [show a * 256 + (i + 1) = a * 256 + i + 1 by omega, hzz.out]; exact hu2, by rw [show a * 256 + (i + 1) = a * 256 + i + 1 by omega, hzz.out]; exact HKL2.out, hb2⟩
            case measure => simp [intOf]; omega
          · have hzz := Lib.hid (cellsZ_more hz)
            obtain ⟨m, hm⟩ : ∃ m, a * 256 + i = m := ⟨_, rfl⟩
            have hmi : (a : Int) * 256 + (i : Int) = (m : Int) := by omega
            have hm1 : m ≤ 1114111 := by omega
            rw [hm] at hiya hfl hle hzz hu2 hz
            have hmm : a * 256 + (i + 1) = m + 1 := by omega
            have HMM := Lib.hid hmm
            have HKM : Hid ((cellsZ f m).length = k2) := Lib.hid (by rw [← hm]; exact HKL2.out)
            clear hmm hm HKL2
            generalize hfv : f m = v at *
            have hz2 : ((v : Int) != 0) = true := by simp; omega
            have hz3 : ((v : Int) == 0) = false := by simp; omega
            have hu3 := hu2.alloc (.cells #[.int .i32 (m : Int), .int .u16 (v : Int)] 38)
            have b3 := below_step hb2 (below_new wr (.cells #[.int .i32 (m : Int), .int .u16 (v : Int)] 38))
            have hnw := World.news_of_block (cs := #[.int .i32 (m : Int), .int .u16 (v : Int)]) (t := 38) (fr := (0, 0)) (heap_alloc_new wr (.cells #[.int .i32 (m : Int), .int .u16 (v : Int)] 38))
            have h63 : k2 + 1 ≤ maxLen := by unfold maxLen; omega
            have h8 : (k2 + 1) * 8 ≤ 140737488355328 := by omega
            have hbs := b3.size
            go_wp2_with (at_builtin; refine wpList_append_own _ rfl (.tmp 29) (.tmp 37) 24 rfl w.heap.size 38 i2 _ 2 8 Try.underlying24 hi2 hq0 hq1 hq2 rfl (by decide) (.slice uB k2 ur) k2 (owC (cellsZ f m)) rfl hu3 ⟨wr.heap.size, 0, none⟩ 1 1 [.int .i32 (m : Int), .int .u16 (v : Int)] rfl rfl hnw (by simp [Value.oneCell']) h63 h8 hbs ?_; intro v4 w4 hown4 hgrow4 _)
            go_roundw
            case rel =>
              refine ⟨i + 1, k2 + 1, by go_num, by omega, ?_, ?_, b3.grown hgrow4 hbs (fun kk h => (hu3.lt kk h).1)⟩
              · rw [HMM.out, hzz.out, owC_append]
                exact hown4
              · rw [HMM.out, hzz.out, List.length_append, HKM.out]
                rfl
            case measure => simp [intOf]; omega
        · obtain rfl : i = 256 := by omega
          go_wp2
          go_roundw
          case rel => exact ⟨a + 1, k2, by go_num, by omega, by rw [show (a + 1) * 256 = a * 256 + 256 by omega]; exact hu2, by rw [show (a + 1) * 256 = a * 256 + 256 by omega]; exact HKL2.out, hb2⟩
          case measure => simp [intOf]; omega
    · obtain rfl : a = 4352 := by omega
      have e : (4352 * 256 : Nat) = 1114112 := by decide
      rw [e] at hu HKL
      go_wp2
      go_ret
      refine ⟨_, rfl, ?_, hb⟩
      rw [HKL.out]
      exact hu
end Go.Proofs.Ytblakfpacommfaa
