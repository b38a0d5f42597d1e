/-
  strconv.FormatUint in base ten, strconv.AppendUint, digits.appendWhole.
-/
import Derived.Test.YtobfhidajcnfdaaDoorTextA
import Derived.Test.YtobfhidajcnfdaaDoorShelf
import Derived.Lib.AppendIntMem
import Derived.Lib.OwnKind
import Derived.Lib.SmallJoins
namespace Go.Proofs.YtobfhidajcnfdaaDoor
set_option linter.unusedVariables false
set_option maxRecDepth 20000
open Go.RowKit Go.Sort Go.Lib

theorem gPow : Tryd.prog.globalNamed "internal/strconv.uint64pow10" = some 1 := by kernel_rfl
/-- What the laws find in memory: the powers of ten. -/
def Env (w : World) : Prop := Lib.TabIs Tryd.prog w "internal/strconv.uint64pow10" .u64 Lib.pow10Tab
theorem Env.kept {w w' : World} (h : Env w) (hb : Below w.heap.size w w') : Env w' := Joins.tab_stays gPow h hb (Nat.le_refl _)

theorem fmt_big (u : Nat) (hu : 100 ≤ u) (hu64 : u < 18446744073709551616) (w : World) (htab : Env w) :
    Calls Tryd.prog 69 #[.int .u64 u, .int .i64 10] w (RetV (.string ⟨(Lib.decDigits u).toArray⟩) w) := by
  have hu1 : 1 ≤ u := by omega
  have hnd20 : Lib.nDigits u ≤ 20 := by have := Lib.numDigits_eq u hu1 hu64; split at this <;> omega
  have hal : Tryd.prog.arrayLen 98 = 24 := by simp [Program.arrayLen, Tryd.underlying98]
  have hsl : ∀ W, (Instr.sliceAt 98 (.pointer (some ⟨w.heap.size, 0, none⟩)) none (some (.int .i64 (Lib.nDigits u : Int))) none).run Tryd.prog W = .ok (.slice (some ⟨w.heap.size, 0, none⟩) (Lib.nDigits u) 24) W := fun W => by
    rw [run_sliceAt_array_h W 98 ⟨w.heap.size, 0, none⟩ (by simp [Program.arrayLen, Program.elem, Tryd.underlying98]) .i64 (Lib.nDigits u : Int) (by omega) (by rw [hal]; omega)]
    go_simp
  have hH0 := Lib.holds_zero0 w 98 (Lib.nDigits u) (by omega)
  have hfmt := Tryd.internal_strconv_formatBase10 w.heap.size 0 24 u (Array.replicate (Lib.nDigits u) 0) (w.alloc (.cells Lib.zeros24 98)) hH0 (by rw [Array.size_replicate]; exact Lib.lt_pow_nDigits u) hu64 (by rw [Array.size_replicate]; omega)
  rw [Array.size_replicate] at hfmt
  have HH0 := Lib.hid hH0
  have iu : (100 : Int) ≤ (u : Int) := by omega
  clear hH0 hal
  go_enter Tryd.func69, Tryd.ntmps69
  go_wp2_with (go_at_call 66; refine (Tryd.internal_strconv_numDigits u hu1 hu64 _ (Lib.tabIs_alloc htab _)).mono ?_; rintro e w' ⟨rfl, rfl⟩)
  refine hfmt.mono ?_
  rintro e w' ⟨rfl, k, v', dk, rfl, hF⟩
  have hcv : (convert 42 9 (.slice (some ⟨w.heap.size, 0, none⟩) (Lib.nDigits u) 24)).run Tryd.prog ((putRow (fun (b : UInt8) => Value.int .u8 (b.toNat : Int)) (w.alloc (.cells Lib.zeros24 98)) w.heap.size 0 dk).drewN k) = .ok (.string ⟨(Lib.decDigits u).toArray⟩) ((putRow (fun (b : UInt8) => Value.int .u8 (b.toNat : Int)) (w.alloc (.cells Lib.zeros24 98)) w.heap.size 0 dk).drewN k) := by
    have h := run_convert_bytes_back (P := Tryd.prog) ((putRow (fun (b : UInt8) => Value.int .u8 (b.toNat : Int)) (w.alloc (.cells Lib.zeros24 98)) w.heap.size 0 dk).drewN k) 42 9 5 ⟨w.heap.size, 0, none⟩ 24 (Lib.decDigits u) Tryd.underlying42 Tryd.underlying5 Tryd.underlying9 (fun j hj => by
      rw [Lib.row_is_numeral hF j hj, Lib.add_plain, World.cell?_drewN]
      exact cell?_putRow (fun (b : UInt8) => Value.int .u8 (b.toNat : Int)) _ w.heap.size 0 _ dk HH0.out (by rw [hF.size, Array.size_replicate]) j (by rw [hF.size]; rw [Lib.decDigits_length] at hj; exact hj))
    rw [Lib.decDigits_length] at h
    exact h
  go_wp2
  go_ret
  obtain ⟨os, eo⟩ := Lib.fin_at w (.cells Lib.zeros24 98) dk k 0
  exact ⟨rfl, by rw [eo]; exact Lib.below_grow _ w (Nat.le_refl _) k os⟩

theorem format_big (u : Nat) (hu : 100 ≤ u) (hu64 : u < 18446744073709551616) (w : World) (htab : Env w) :
    Calls Tryd.prog 56 #[.int .u64 u, .int .i64 10] w (RetV (.string ⟨(Lib.decDigits u).toArray⟩) w) := by
  go_enter Tryd.func56, Tryd.ntmps56
  go_wp2_with fail
  refine (fmt_big u hu hu64 w htab).mono ?_
  rintro e w1 ⟨rfl, b1⟩
  go_wp2
  go_ret
  exact ⟨rfl, b1⟩

/-- strconv.AppendUint in base ten, behind a row of one's own. -/
theorem appendUint_any (B n u : Nat) (hu64 : u < 18446744073709551616) (sv : Value) (xs : List Value) (w : World) (hown : w.ownsRow B 5 1 sv n xs) (hBw : B ≤ w.heap.size) (hlim : n + 20 ≤ 140737488355328) (htab : Env w) :
    Calls Tryd.prog 34 #[sv, .int .u64 u, .int .i64 10] w fun e w' => ∃ v', e = .returned v' ∧ w'.ownsRow B 5 1 v' (n + (Lib.decDigits u).length) (xs ++ Lib.byteCells (Lib.decDigits u)) ∧ Below B w w' ∧ Lib.OthersKept 5 none w w' := by
  have H : Calls Tryd.prog 54 #[sv, .int .u64 u, .int .i64 10] w fun e w' => ∃ v', e = .returned v' ∧ w'.ownsRow B 5 1 v' (n + (Lib.decDigits u).length) (xs ++ Lib.byteCells (Lib.decDigits u)) ∧ Below B w w' ∧ Lib.OthersKept 5 none w w' := by
    rcases Nat.lt_or_ge u 100 with h | h
    · exact Tryd.internal_strconv_AppendUint_10_small B n u h sv xs w hown hBw hlim
    · exact Tryd.internal_strconv_AppendUint_10_big B n u h hu64 sv xs w hown hBw hlim htab
  obtain ⟨ao, cap, rfl⟩ := own_form hown
  go_enter Tryd.func34, Tryd.ntmps34
  go_wp2_with fail
  refine H.mono ?_
  rintro e w1 ⟨v', rfl, h1, h2, h3⟩
  obtain ⟨ao', cap', rfl⟩ := own_form h1
  go_wp2
  go_ret
  exact ⟨_, rfl, h1, h2, h3⟩

/-- A group as nine digits. -/
def pad9 (g : Nat) : List UInt8 := (Lib.decDigits (1000000000 + g)).drop 1
theorem nDigits_ten {g : Nat} (h : g < 1000000000) : Lib.nDigits (1000000000 + g) = 10 := by
  have big : ∀ u, ¬ u < 10 → Lib.nDigits u = Lib.nDigits (u / 10) + 1 := fun u hu => Lib.nDigits_big hu
  rw [big _ (by omega), big _ (by omega), big _ (by omega), big _ (by omega), big _ (by omega), big _ (by omega), big _ (by omega), big _ (by omega), big _ (by omega), Lib.nDigits_small (by omega)]
theorem pad9_length {g : Nat} (h : g < 1000000000) : (pad9 g).length = 9 := by
  rw [pad9, List.length_drop, Lib.decDigits_length, nDigits_ten h]
theorem OthersKept.of_below {w w' : World} {e : TypeId} {r : Option Nat} (h : Below w.heap.size w w') : Lib.OthersKept e r w w' := fun g o hg _ _ => by
  have hl : g < w.heap.size := (Array.getElem?_eq_some_iff.1 hg).1
  exact (h.block g hl).trans hg
theorem byte_info : (Tryd.prog.info? 5).map (fun i => (i.zero, i.size, i.bytes)) = some (some (.int .u8 0), 1, 1) := by kernel_rfl

theorem whole_any (B n g : Nat) (hg : g < 1000000000) (sv : Value) (xs : List Value) (w : World) (hown : w.ownsRow B 5 1 sv n xs) (hBw : B ≤ w.heap.size) (hlim : n ≤ 1000000000) (htab : Env w) :
    Calls Tryd.prog 36 #[sv, .int .u64 g] w fun e w' => ∃ v', e = .returned v' ∧ w'.ownsRow B 5 1 v' (n + 9) (xs ++ Lib.byteCells (pad9 g)) ∧ Below B w w' ∧ Lib.OthersKept 5 none w w' := by
  obtain ⟨i0, hi, hz0, hz1, hz2⟩ := info_parts byte_info
  obtain ⟨ao, cap, rfl⟩ := own_form hown
  have hF := format_big (1000000000 + g) (by omega) (by omega) w htab
  have hd10 : (Lib.decDigits (1000000000 + g)).length = 10 := by rw [Lib.decDigits_length, nDigits_ten hg]
  have HP : Hid ((Lib.decDigits (1000000000 + g)).drop 1 = pad9 g) := rfl
  have h9 := pad9_length hg
  rw [show ((1000000000 + g : Nat) : Int) = 1000000000 + (g : Int) by omega] at hF
  generalize Lib.decDigits (1000000000 + g) = ds at *
  go_enter Tryd.func36, Tryd.ntmps36
  go_wp2_with fail
  refine hF.mono ?_
  rintro e w1 ⟨rfl, b1⟩
  have hown1 := own_kept hown b1
  have hs1 := b1.size
  have k1 : Lib.OthersKept 5 none w w1 := OthersKept.of_below b1
  have hb1 : Below B w w1 := b1.mono hBw
  generalize hs : (⟨ds.toArray⟩ : ByteArray) = s at *
  have hsz : s.size = 10 := by rw [← hs]; show ds.toArray.size = 10; simp [hd10]
  have HS : Hid ((s.extract 1 10).data.toList = pad9 g ∧ (s.extract 1 10).size = 9) := by
    rw [Hid]
    have e1 : (s.extract 1 10).data.toList = pad9 g := by
      rw [← HP.out, ← hs, ByteArray.data_extract]
      show (ds.toArray.extract 1 10).toList = _
      rw [List.extract_toArray, List.extract_eq_take_drop]
      exact List.take_of_length_le (by rw [List.length_drop]; omega)
    exact ⟨e1, by show (s.extract 1 10).data.size = 9; rw [← Array.length_toList, e1, h9]⟩
  clear hF HP h9 hd10 hs b1 hown
  go_wp2_with (at_builtin; generalize s.extract 1 10 = t at *; have ht := HS.out; refine Lib.wpList_append_own_string _ rfl _ _ 42 9 rfl B 5 i0 Tryd.underlying42 Tryd.underlying9 hi hz0 hz1 hz2 _ _ _ rfl hown1 t rfl ?c3 ?c4 ?c5 ?_)
  case c3 => unfold maxLen; omega
  case c4 => omega
  case c5 => omega
  intro v' w2 hown' hgrow _
  obtain ⟨ao', cap', rfl⟩ := own_form hown'
  go_wp2
  go_ret
  have e : Lib.strCells t = Lib.byteCells (pad9 g) := by rw [← ht.1]; simp [Lib.byteCells, Lib.strCells]
  rw [e] at hown'
  exact ⟨_, rfl, hown', hb1.grown hgrow (by omega) (fun k hk => (hown1.lt k hk).1), k1.grown hgrow (Lib.ownsRow_kind hown1)⟩
end Go.Proofs.YtobfhidajcnfdaaDoor
