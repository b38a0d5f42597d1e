/-
  Contracts of the number package's makers: Clone, trim, Limbs, Of, Few.
-/
import Derived.Test.YtobfhidajcnfdaaDoorProg
import Derived.Test.YtobfhidajcnfdaaDoorWords
import Derived.Test.YtobfhidajcnfdaaDoorBits
import Derived.WalkSpells
import Derived.WalkLawsBesides
import Derived.Laws.AppendOwnNone
import Derived.OwnWalk
import Derived.Lib.Hide
import Derived.KernelRfl
import Derived.Outline
namespace Go.Proofs.YtobfhidajcnfdaaDoor
set_option linter.unusedVariables false
set_option maxRecDepth 20000
open Go.RowKit

theorem u32_info : (Tryd.prog.info? 43).map (fun i => (i.zero, i.size, i.bytes)) = some (some (.int .u32 0), 1, 4) := by kernel_rfl
theorem int_info : (Tryd.prog.info? 3).map (fun i => (i.zero, i.size, i.bytes)) = some (some (.int .i64 0), 1, 8) := by kernel_rfl

theorem clone_any (A : Option Addr) (c : Nat) (l : List Nat) (w : World) (hr : Row .u32 w A l) (hn : l.length ≤ 1000000) :
    Calls Tryd.prog 32 #[.slice A l.length c] w (RetL 43 .u32 l w) := by
  obtain ⟨i0, hi0, hz0, hz1, hz2⟩ := info_parts u32_info
  have q22 : ∀ (w : World) (a : Option Addr) (n c n' c' : Nat), (binOp .eql 22 (.slice a n c) (.slice none n' c')).run Tryd.prog w = .ok (.bool a.isNone) w := fun w a n c n' c' => Lib.run_eql_slice_nil w _ _ a n c n' c' Tryd.underlying22
  rcases A with _ | ad
  · have hl : l = [] := hr.none_
    subst hl
    go_enter Tryd.func32, Tryd.ntmps32
    go_wp2
    go_ret
    exact ⟨_, rfl, ⟨none, 0, rfl, Arr.empty, by simp⟩, Below.refl _ _⟩
  · go_enter Tryd.func32, Tryd.ntmps32
    go_wp2_with (at_builtin; refine wpList_append_own _ rfl (.tmp 5) (.tmp 6) 22 rfl w.heap.size 43 i0 (.int .u32 0) 1 4 Tryd.underlying22 hi0 hz0 hz1 hz2 rfl (by decide) (.slice (some ⟨w.heap.size, 0, none⟩) 0 0) 0 [] rfl (World.ownsRow_lit w #[] 0 (Nat.le_refl _) (by decide) rfl) ad l.length c (cellsOf .u32 l) rfl (by simp [cellsOf]) (hr.alloc _).src (cellsOf_one _ _) (by unfold maxLen; omega) (by omega) (by simp) ?_; intro v' w' hown hgrow _; simp only [Nat.zero_add, List.nil_append] at hown)
    go_ret
    exact ⟨_, rfl, own_isL hown, ((Below.refl _ _).alloc (Nat.le_refl _) _).grown hgrow (by simp) (by simp [Value.ownBlock])⟩

/-- 'trim': without the noughts at the end. -/
theorem trim_any (A : Option Addr) (c : Nat) (l : List Nat) (w : World) (hr : Arr 43 .u32 w A l) (hb : ∀ x ∈ l, x < 4294967296) (hn : l.length ≤ 1000000) (hc : l.length ≤ c) :
    Calls Tryd.prog 31 #[.slice A l.length c] w (RetN l.length (val 4294967296 l) w) := by
  go_enter Tryd.func31, Tryd.ntmps31
  go_wp2
  go_loop [3] (fun t => ∃ k : Nat, k ≤ l.length ∧ t = .int .i64 k ∧ val 4294967296 (l.take k) = val 4294967296 l) (fun t => (intOf t).toNat)
  case atStart => exact ⟨l.length, Nat.le_refl _, rfl, by rw [List.take_length]⟩
  case round =>
    obtain ⟨k, hk, rfl, hv⟩ := hrel
    have HV := Lib.hid hv
    clear hv
    by_cases hk0 : k = 0
    · subst hk0
      go_wp2
      have hv0 : val 4294967296 l = 0 := by rw [← HV.out]; simp [val]
      rw [hv0]
      exact bodyPost_ret (v := .agg #[.slice none 0 0]) (by simp [results, Tryd.results31, go_sem]) rfl ⟨_, rfl, ⟨none, 0, [], rfl, Arr.empty, Norm.nil _, rfl, by simp, by simp⟩, below_new _ _⟩
    · obtain ⟨m, rfl⟩ : ∃ m, k = m + 1 := ⟨k - 1, by omega⟩
      obtain ⟨ad, rfl, hab, hcell⟩ := (hr.alloc (Obj.cells #[Value.slice none 0 0] 26)).row.at_ (i := m) (by omega)
      obtain ⟨x, hx⟩ : ∃ x, x = l.getD m 0 := ⟨_, rfl⟩
      rw [← hx] at hcell
      have HX := Lib.hid hx
      clear hx hk0
      by_cases hz : x = 0
      · subst hz
        go_wp2
        go_round
        case rel => exact ⟨m, by omega, rfl, by rw [← HV.out, val_take_succ _ _ _ (by omega), ← HX.out]; simp⟩
        case measure => simp [intOf]
      · have hz1 : ((x : Int) == 0) = false := by simp; omega
        have hm1 : ((m : Int) + 1 == 0) = false := by simp; omega
        go_wp2
        have hlen : (l.take (m + 1)).length = m + 1 := by rw [List.length_take]; omega
        refine bodyPost_ret (v := .agg #[.slice (some ad) (m + 1) c]) (by simp [results, Tryd.results31, go_sem]) rfl ⟨_, rfl, ⟨some ad, c, l.take (m + 1), by rw [hlen], (hr.take _).alloc _, norm_take hb (by omega) (by omega) ?_, HV.out, by omega, by omega⟩, below_new _ _⟩
        show l.getD m 0 ≠ 0
        rw [← HX.out]; exact hz

/-- 'nat.Limbs': the number of these digits. -/
theorem limbs_any (A : Option Addr) (c : Nat) (l : List Nat) (w : World) (hr : Row .u32 w A l) (hb : ∀ x ∈ l, x < 4294967296) (hn : l.length ≤ 1000000) :
    Calls Tryd.prog 11 #[.slice A l.length c] w (RetN l.length (val 4294967296 l) w) := by
  go_enter Tryd.func11, Tryd.ntmps11
  go_wp2_with fail
  refine (clone_any A c l _ (hr.alloc _) hn).mono ?_
  rintro e w1 ⟨v, rfl, ⟨A1, c1, rfl, hr1, hc1⟩, hb1⟩
  go_wp2_with fail
  refine (trim_any A1 c1 l _ hr1 hb hn hc1).mono ?_
  rintro e w2 ⟨v, rfl, hN2, hb2⟩
  obtain ⟨A2, n2, c2, rfl⟩ := hN2.shape
  have hB := (Blk.over hb1).on hb2
  have hc0 := hB.cell0
  have hf0 := hB.free 0
  have hq := (hB.set0 (.slice A2 n2 c2)).cell0
  go_wp2
  exact bodyPost_ret (v := .agg #[.slice A2 n2 c2]) (by simp [results, Tryd.results11, go_sem, hq]) rfl ⟨_, rfl, hN2.far hB 0 _, (below_step (below_step (below_new _ _) hb1) hb2).setCell (Nat.le_refl _) _⟩

/-- Two cells of a new block are a row. -/
theorem two_row (w : World) (t : TypeId) (a b : Nat) (x y : Int) (hx : x = (a : Nat)) (hy : y = (b : Nat)) :
    Row .u32 (w.alloc (.cells #[.int .u32 x, .int .u32 y] t)) (some ⟨w.heap.size, 0, none⟩) [a, b] := by
  subst hx; subst hy
  refine fun _ => ⟨_, rfl, by simp, fun i hi => ?_⟩
  rw [add_zero_block, (Blk.new w t _).cell]
  match i, hi with
  | 0, _ => rfl
  | 1, _ => rfl

/-- 'nat.Of': a number. -/
theorem of_any (x : Nat) (w : World) (hx : x < 18446744073709551616) : Calls Tryd.prog 27 #[.int .u64 x] w (RetN 2 x w) := by
  have h0 : (0 : Int) ≤ (x : Int) := by omega
  have h1 : (x : Int) < 18446744073709551616 := by omega
  have hb : ∀ y ∈ [x % 4294967296, x / 4294967296], y < 4294967296 := by
    intro y hy; simp at hy; rcases hy with rfl | rfl <;> omega
  have hv : val 4294967296 [x % 4294967296, x / 4294967296] = x := by simp [val]; omega
  have HV := Lib.hid hv
  clear hv
  go_enter Tryd.func27, Tryd.ntmps27
  go_wp2_with fail
  refine (limbs_any (some ⟨w.heap.size + 1, 0, none⟩) 2 [x % 4294967296, x / 4294967296] _ ?_ hb (by simp)).mono ?_
  · have := two_row (w.alloc (Obj.cells #[Value.slice none 0 0] 26)) 43 (x % 4294967296) (x / 4294967296) ((x : Int) % 4294967296) ((x : Int) / 4294967296) (by omega) (by omega)
    simpa using this
  rintro e w1 ⟨v, rfl, hN, hb1⟩
  rw [HV.out] at hN
  obtain ⟨A2, n2, c2, rfl⟩ := hN.shape
  have hB := ((Blk.new w 26 #[.slice none 0 0]).alloc _).on hb1
  have hc0 := hB.cell0
  have hf0 := hB.free 0
  have hq := (hB.set0 (.slice A2 n2 c2)).cell0
  go_wp2
  exact bodyPost_ret (v := .agg #[.slice A2 n2 c2]) (by simp [results, Tryd.results27, go_sem, hq]) rfl ⟨_, rfl, hN.far hB 0 _, (below_step (below_step (below_new _ _) (below_new _ _)) hb1).setCell (Nat.le_refl _) _⟩

/-- '(Nat).Limbs': its digits, in new memory. -/
theorem limbsOf_any (A : Option Addr) (c : Nat) (l : List Nat) (w : World) (hr : Arr 43 .u32 w A l) (hn : l.length ≤ 1000000) :
    Calls Tryd.prog 42 #[.agg #[.slice A l.length c]] w (RetL 43 .u32 l w) := by
  go_enter Tryd.func42, Tryd.ntmps42
  go_wp2_with fail
  refine (clone_any A c l _ (hr.alloc _).row hn).mono ?_
  rintro e w1 ⟨v, rfl, hL, hb1⟩
  obtain ⟨A1, c1, rfl, hr1, hc1⟩ := hL
  go_wp2
  go_ret
  exact ⟨_, rfl, ⟨A1, c1, rfl, hr1, hc1⟩, below_step (below_new _ _) hb1⟩

/-- 'Few': at most 40 of them, in new memory. -/
theorem few_any (A : Option Addr) (n c : Nat) (l : List Nat) (w : World) (hl : l.length = n) (hr : Row .u32 w A l) (hnc : n ≤ c) :
    Calls Tryd.prog 10 #[.slice A n c] w (RetL 43 .u32 (l.take 40) w) := by
  obtain ⟨i0, hi0, hz0, hz1, hz2⟩ := info_parts u32_info
  rcases A with _ | ad
  · have hl0 : l = [] := hr.none_
    subst hl0
    subst hl
    go_enter Tryd.func10, Tryd.ntmps10
    go_wp2
    go_ret
    exact ⟨_, rfl, ⟨_, 0, rfl, Arr.empty, by simp⟩, below_new _ _⟩
  · by_cases h40 : 40 < n
    · go_enter Tryd.func10, Tryd.ntmps10
      go_wp2_with (at_builtin; refine wpList_append_own _ rfl (.tmp 8) (.tmp 9) 22 rfl w.heap.size 43 i0 (.int .u32 0) 1 4 Tryd.underlying22 hi0 hz0 hz1 hz2 rfl (by decide) (.slice (some ⟨w.heap.size, 0, none⟩) 0 0) 0 [] rfl (World.ownsRow_lit w #[] 0 (Nat.le_refl _) (by decide) rfl) ad 40 c (cellsOf .u32 (l.take 40)) rfl (by simp [cellsOf]; omega) ((hr.take 40).alloc _).src (cellsOf_one _ _) (by decide) (by decide) (by simp) ?_; intro v' w' hown hgrow _; simp only [Nat.zero_add, List.nil_append] at hown)
      go_ret
      have hlen : (l.take 40).length = 40 := by rw [List.length_take]; omega
      exact ⟨_, rfl, own_isL (by rw [hlen]; exact hown), (below_new _ _).grown hgrow (by simp) (by simp [Value.ownBlock])⟩
    · have hlen : l.take 40 = l := List.take_of_length_le (by omega)
      rw [hlen]
      clear hlen
      go_enter Tryd.func10, Tryd.ntmps10
      go_wp2_with (at_builtin; refine wpList_append_own _ rfl (.tmp 8) (.tmp 9) 22 rfl w.heap.size 43 i0 (.int .u32 0) 1 4 Tryd.underlying22 hi0 hz0 hz1 hz2 rfl (by decide) (.slice (some ⟨w.heap.size, 0, none⟩) 0 0) 0 [] rfl (World.ownsRow_lit w #[] 0 (Nat.le_refl _) (by decide) rfl) ad n c (cellsOf .u32 l) rfl (by simp [cellsOf]; omega) (hr.alloc _).src (cellsOf_one _ _) (by unfold maxLen; omega) (by omega) (by simp) ?_; intro v' w' hown hgrow _; simp only [Nat.zero_add, List.nil_append] at hown)
      go_ret
      exact ⟨_, rfl, own_isL (by rw [hl]; exact hown), (below_new _ _).grown hgrow (by simp) (by simp [Value.ownBlock])⟩

/-- '(Nat).Zero'. -/
theorem zero_any (v : Value) (k N : Nat) (b : Bool) (w : World) (h : IsN w v k N) (hb : decide (N = 0) = b) :
    Calls Tryd.prog 18 #[v] w (RetV (.bool b) w) := by
  rw [← hb]
  clear hb
  obtain ⟨A, c, l, rfl, hr, hn, rfl, _⟩ := h
  have e := hn.zero (by decide)
  have e2 : decide (val 4294967296 l = 0) = ((l.length : Int) == 0) := by
    rw [Bool.eq_iff_iff]; simp [e]
  rw [e2]
  clear e e2
  go_enter Tryd.func18, Tryd.ntmps18
  go_wp2
  go_ret
  exact ⟨rfl, below_new _ _⟩

/-- '(Nat).digit'. -/
theorem digit_any (A : Option Addr) (c i : Nat) (l : List Nat) (w : World) (hr : Arr 43 .u32 w A l) (hn : l.length ≤ 1000000) (hi : i ≤ 1000000) :
    Calls Tryd.prog 49 #[.agg #[.slice A l.length c], .int .i64 i] w (RetV (.int .u32 (l.getD i 0 : Nat)) w) := by
  by_cases h : i < l.length
  · obtain ⟨ad, rfl, hab, hcell⟩ := (hr.alloc (Obj.cells #[Value.slice A l.length c] 26)).row.at_ h
    obtain ⟨x, hx⟩ : ∃ x, x = l.getD i 0 := ⟨_, rfl⟩
    rw [← hx] at hcell ⊢
    clear hx
    go_enter Tryd.func49, Tryd.ntmps49
    go_wp2
    go_ret
    exact ⟨rfl, below_new _ _⟩
  · have e : l.getD i 0 = 0 := by simp [List.getD, List.getElem?_eq_none (by omega : l.length ≤ i)]
    rw [e]
    clear e
    go_enter Tryd.func49, Tryd.ntmps49
    go_wp2
    go_ret
    exact ⟨rfl, below_new _ _⟩

/-- 'bits.Add32'. -/
theorem add32_any (x y z : Nat) (w : World) (hx : x < 4294967296) (hy : y < 4294967296) (hz : z ≤ 1) :
    Calls Tryd.prog 48 #[.int .u32 x, .int .u32 y, .int .u32 z] w fun e w' => e = .returned (.tuple #[.int .u32 ((x + y + z) % 4294967296 : Nat), .int .u32 ((x + y + z) / 4294967296 : Nat)]) ∧ w = w' := by
  go_enter Tryd.func48, Tryd.ntmps48
  go_wp2
  go_ret2
  exact ⟨by simp, rfl⟩

/-- The borrow of a difference. -/
def brw (x y z : Nat) : Nat := if x < y + z then 1 else 0

/-- 'bits.Sub32'. -/
theorem sub32_any (x y z : Nat) (w : World) (hx : x < 4294967296) (hy : y < 4294967296) (hz : z ≤ 1) :
    Calls Tryd.prog 78 #[.int .u32 x, .int .u32 y, .int .u32 z] w fun e w' => e = .returned (.tuple #[.int .u32 ((4294967296 + x - y - z) % 4294967296 : Nat), .int .u32 (brw x y z : Nat)]) ∧ w = w' := by
  have hs : ¬ IntKind.u32.signed = true := by decide
  go_enter Tryd.func78, Tryd.ntmps78
  go_wp2
  go_ret2
  refine ⟨?_, rfl⟩
  have e1 : (((x : Int) - (y : Int)) % 4294967296 - (z : Int)) % 4294967296 = (((4294967296 + x - y - z) % 4294967296 : Nat) : Int) := by omega
  have e2 := borrow_bits x y z hx hy hz
  show Ending.returned (.tuple #[.int .u32 ((((x : Int) - (y : Int)) % 4294967296 - (z : Int)) % 4294967296), .int .u32 (bits .or .u32 (bits .and .u32 (bits .xor .u32 IntKind.u32.max (x : Int)) (y : Int)) (bits .and .u32 (bits .xor .u32 IntKind.u32.max (bits .xor .u32 (x : Int) (y : Int))) (((x : Int) - (y : Int) - (z : Int)) % 4294967296)) / 2147483648)]) = _
  rw [e2, e1]
  rfl

/-- How two numbers stand. -/
def cmpN (a b : Nat) : Int := if a < b then -1 else if b < a then 1 else 0

theorem cmpN_lt {a b : Nat} (h : a < b) : cmpN a b = -1 := by simp [cmpN, h]
theorem cmpN_gt {a b : Nat} (h : b < a) : cmpN a b = 1 := by simp [cmpN, h]; omega
theorem cmpN_eq (a : Nat) : cmpN a a = 0 := by simp [cmpN]
theorem cmpN_zero {a b : Nat} : cmpN a b = 0 ↔ a = b := by
  rcases Nat.lt_trichotomy a b with h | h | h
  · rw [cmpN_lt h]; omega
  · subst h; simp [cmpN_eq]
  · rw [cmpN_gt h]; omega

theorem cmpInt_any (x y : Nat) (w : World) (hx : x ≤ 1000000) (hy : y ≤ 1000000) :
    Calls Tryd.prog 46 #[.int .i64 x, .int .i64 y] w fun e w' => e = .returned (.int .i64 (cmpN x y)) ∧ w = w' := by
  unfold cmpN
  rcases Nat.lt_trichotomy x y with h | h | h
  · rw [if_pos h]
    go_enter Tryd.func46, Tryd.ntmps46
    go_wp2
    go_ret
    exact ⟨rfl, rfl⟩
  · subst h
    rw [if_neg (by omega), if_neg (by omega)]
    go_enter Tryd.func46, Tryd.ntmps46
    go_wp2
    go_ret
    exact ⟨rfl, rfl⟩
  · rw [if_neg (by omega), if_pos h]
    go_enter Tryd.func46, Tryd.ntmps46
    go_wp2
    go_ret
    exact ⟨rfl, rfl⟩

theorem cmpU32_any (x y : Nat) (w : World) (hx : x < 4294967296) (hy : y < 4294967296) :
    Calls Tryd.prog 47 #[.int .u32 x, .int .u32 y] w fun e w' => e = .returned (.int .i64 (cmpN x y)) ∧ w = w' := by
  unfold cmpN
  rcases Nat.lt_trichotomy x y with h | h | h
  · rw [if_pos h]
    go_enter Tryd.func47, Tryd.ntmps47
    go_wp2
    go_ret
    exact ⟨rfl, rfl⟩
  · subst h
    rw [if_neg (by omega), if_neg (by omega)]
    go_enter Tryd.func47, Tryd.ntmps47
    go_wp2
    go_ret
    exact ⟨rfl, rfl⟩
  · rw [if_neg (by omega), if_pos h]
    go_enter Tryd.func47, Tryd.ntmps47
    go_wp2
    go_ret
    exact ⟨rfl, rfl⟩
end Go.Proofs.YtobfhidajcnfdaaDoor
