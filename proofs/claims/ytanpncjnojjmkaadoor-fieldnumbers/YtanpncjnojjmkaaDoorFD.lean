/-
  field.Strip; the laws' fixed fact; FieldHex's walk.
-/
import Derived.Test.YtanpncjnojjmkaaDoorFC
namespace Go.Proofs.YtanpncjnojjmkaaDoor
set_option linter.unusedVariables false
set_option maxRecDepth 20000
open Go.RowKit

/-- What the program's variables give: the one of internal/bytealg holds some number. -/
def Env (w : World) : Prop := 0 < w.heap.size ∧ ∃ m : Int, w.cell? ⟨0, 0, none⟩ = some (.int .i64 m)
theorem Env.kept {w w' : World} (h : Env w) (hb : Below w.heap.size w w') : Env w' := by
  obtain ⟨h0, m, hm⟩ := h
  exact ⟨Nat.lt_of_lt_of_le h0 hb.size, m, (hb.cell (p := ⟨0, 0, none⟩) h0).trans hm⟩
theorem below_dn (w : World) (n : Nat) : Below w.heap.size w (w.drewN n) := ⟨rfl, rfl, rfl, Nat.le_refl _, fun _ _ => rfl⟩

/-- What stands ahead of a note, without blanks at its ends. -/
def stripL (l : List UInt8) : List UInt8 := Lib.trimB (Lib.cut l [35]).1 32
theorem cut_le (l sep : List UInt8) : (Lib.cut l sep).1.length ≤ l.length := by
  unfold Lib.cut
  split
  · simp [List.length_take]; omega
  · exact Nat.le_refl _

set_option maxHeartbeats 1000000 in
theorem strip_any (s : ByteArray) (l : List UInt8) (w : World) (he : Env w) (hs : s.size ≤ 1000000) (hl : stripL s.data.toList = l) : Calls Tryd.prog 11 #[.string s] w (RetV (.string ⟨l.toArray⟩) w) := by
  obtain ⟨_, m, hm⟩ := he
  have HC := Lib.hid (Tryd.strings_Cut s ⟨#[35]⟩ m w (by omega) hm)
  have h1 := cut_le s.data.toList [35]
  have h2 : s.data.toList.length = s.size := Array.length_toList
  unfold stripL at hl
  change Hid (Calls _ _ _ _ fun e w' => e = .returned (.tuple #[.string ⟨(Lib.cut s.data.toList [35]).1.toArray⟩, .string ⟨(Lib.cut s.data.toList [35]).2.1.toArray⟩, .bool (Lib.cut s.data.toList [35]).2.2]) ∧ ∃ n, w' = w.drewN n) at HC
  generalize Lib.cut s.data.toList [35] = c at *
  obtain ⟨c1, c2, c3⟩ := c
  simp only at h1 hl HC
  have HT := Lib.hid fun W => Tryd.strings_Trim_one ⟨c1.toArray⟩ 32 (by decide) W (by simp [ByteArray.size]; omega)
  subst hl
  go_enter Tryd.func11, Tryd.ntmps11
  go_wp2_with fail
  refine HC.out.mono ?_
  rintro e w1 ⟨rfl, n, rfl⟩
  go_wp2_with fail
  refine (HT.out _).mono ?_
  rintro e w2 ⟨rfl, hw2⟩
  have hb : Below w.heap.size w w2 := by
    rcases hw2 with rfl | rfl
    · exact below_dn w n
    · exact below_step (below_dn w n) (below_drew _)
  clear hw2
  simp only
  go_wp2
  go_ret
  exact ⟨rfl, hb⟩

set_option maxHeartbeats 2000000 in
theorem awake_any (w : World) (he : Env w) : Calls Tryd.prog 6 #[] w (RetV (.bool true) w) := by
  have H1 := Lib.hid fun W => hex_any ⟨#[48, 48, 69, 57]⟩ (some 233) W (by decide) (by decide)
  have H2 := Lib.hid fun W => hex_any ⟨#[48, 48, 48, 69, 57]⟩ none W (by decide) (by decide)
  have H3 := Lib.hid fun W hW => strip_any ⟨#[48, 57, 53, 56, 32, 35, 32, 97, 32, 110, 111, 116, 101]⟩ [48, 57, 53, 56] W hW (by decide) (by decide)
  have H4 : Hid (∀ W, Calls Tryd.prog 18 #[.int .i32 233] W (RetV (.string ⟨#[48, 48, 69, 57]⟩) W)) := Lib.hid fun W => hexText_any 233 (by decide) W
  simp only [hexV, Option.getD_some, Option.getD_none, Option.isSome_some, Option.isSome_none, Int.cast_ofNat_Int] at H1 H2
  go_enter Tryd.func6, Tryd.ntmps6
  go_wp2_with fail
  refine (H1.out _).mono ?_
  rintro e w1 ⟨rfl, y1⟩
  go_wp2_with fail
  refine (H2.out _).mono ?_
  rintro e w2 ⟨rfl, y2⟩
  go_wp2_with fail
  refine (H3.out _ (he.kept (below_step y1 y2))).mono ?_
  rintro e w3 ⟨rfl, y3⟩
  go_wp2_with fail
  refine (H4.out _).mono ?_
  rintro e w4 ⟨rfl, y4⟩
  go_wp2
  go_ret
  exact ⟨rfl, below_step (below_step (below_step y1 y2) y3) y4⟩

theorem i64_and21 (n : Int) : bits .and .i64 n 2097151 = n % 2097152 := by
  have h127 : (BitVec.ofInt 64 2097151).toNat = 2 ^ 21 - 1 := by decide
  have key : (BitVec.ofInt 64 n &&& BitVec.ofInt 64 2097151).toNat = (n % ((2 ^ 64 : Nat) : Int)).toNat % 2 ^ 21 := by
    rw [BitVec.toNat_and, BitVec.toNat_ofInt, h127, Nat.and_two_pow_sub_one_eq_mod]
  show IntKind.i64.wrap ((BitVec.ofInt 64 n &&& BitVec.ofInt 64 2097151).toNat : Nat) = n % 2097152
  rw [key, IntKind.wrap_i64]
  omega

set_option maxHeartbeats 2000000 in
theorem fieldHex_walk (x : Int) (w : World) (he : Env w) : Calls Tryd.prog 5 #[.int .i64 x] w (RetV (.bool true) w) := by
  have H0 := Lib.hid (awake_any w he)
  have hand := i64_and21 x
  obtain ⟨y, hy⟩ : ∃ y : Int, x % 2097152 = y := ⟨_, rfl⟩
  have hy0 : 0 ≤ y ∧ y < 2097152 := by omega
  rw [hy] at hand
  obtain ⟨hyl, hyh⟩ := hy0
  obtain ⟨n, hn⟩ : ∃ n : Nat, y % 1114112 = (n : Int) := ⟨(y % 1114112).toNat, by omega⟩
  have hn1 : n ≤ 1114111 := by omega
  have htm : y.tmod 1114112 = (n : Int) := by rw [Int.tmod_eq_emod_of_nonneg hyl, hn]
  have H1 := Lib.hid fun W => hexText_any n hn1 W
  have H2 := Lib.hid fun W => hex_any ⟨(hexText n).toArray⟩ (some n) W (by have := hexText_length n; have := wd_range n; simp [ByteArray.size]; omega) (hexRead_text n hn1)
  have H3 := Lib.hid fun W => refHexText_any n (by omega) W
  simp only [hexV, Option.getD_some, Option.isSome_some] at H2
  generalize (hexText n).toArray = T at *
  clear hn hy
  go_enter Tryd.func5, Tryd.ntmps5
  go_wp2_with fail
  refine H0.out.mono ?_
  rintro e w1 ⟨rfl, y1⟩
  go_wp2_with fail
  refine (H1.out _).mono ?_
  rintro e w2 ⟨rfl, y2⟩
  go_wp2_with fail
  refine (H2.out _).mono ?_
  rintro e w3 ⟨rfl, y3⟩
  go_wp2_with fail
  refine (H3.out _).mono ?_
  rintro e w4 ⟨rfl, y4⟩
  go_wp2
  go_ret
  exact ⟨by simp, below_step (below_step (below_step y1 y2) y3) y4⟩
end Go.Proofs.YtanpncjnojjmkaaDoor
