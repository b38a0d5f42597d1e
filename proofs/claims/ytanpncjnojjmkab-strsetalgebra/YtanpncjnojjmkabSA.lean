/-
  Rows of texts in memory; Cut, Few, copied, Compare.
-/
import Derived.Test.YtanpncjnojjmkabWords
import Derived.Test.YtanpncjnojjmkabSMath
import Derived.Test.YtanpncjnojjmkabShelf
import Derived.Maps.AppendAt
import Derived.Deep.LoopGhost
import Derived.Deep.Onto
import Derived.Lib.OwnKind
import Derived.Lib.Hide
import Derived.Laws.MakeOwn
import Derived.Laws.AppendOwnNone
import Derived.OwnWalk
import Derived.BigQuiet
import Derived.Deep.QuietTactic
import Derived.Deep.RegionHeld3
import Derived.IntWalk
import Derived.Deep.DeepCutAuto
import Derived.Deep.CutRange
namespace Go.Proofs.Ytanpncjnojjmkab
set_option linter.unusedVariables false
set_option maxRecDepth 20000
open Go.RowKit

theorem own_form {w : World} {B n : Nat} {e : TypeId} {u : Value} {xs : List Value} (h : w.ownsRow B e 1 u n xs) : ∃ ao cap, u = .slice ao n cap := by
  rcases h.2 with ⟨hv, h0⟩ | ⟨g, cap, cur, hv, _⟩
  · exact ⟨none, 0, by rw [hv, h0]⟩
  · exact ⟨_, _, hv⟩
theorem own_kept {w w' : World} {B n size : Nat} {e : TypeId} {u : Value} {xs : List Value} (h : w.ownsRow B e size u n xs) (hb : Below w.heap.size w w') : w'.ownsRow B e size u n xs := by
  refine ⟨h.1, ?_⟩
  rcases h.2 with h0 | ⟨g, cap, cur, hv, hB, hg, r⟩
  · exact .inl h0
  · refine .inr ⟨g, cap, cur, hv, hB, ?_, r⟩
    have hlt : g < w.heap.size := by
      rcases Nat.lt_or_ge g w.heap.size with h' | h'
      · exact h'
      · simp [Array.getElem?_eq_none h'] at hg
    exact (hb.block g hlt).trans hg
theorem own_empty (w : World) (e : TypeId) : (w.alloc (.cells #[] e)).ownsRow w.heap.size e 1 (.slice (some ⟨w.heap.size, 0, none⟩) 0 0) 0 [] :=
  ⟨rfl, .inr ⟨w.heap.size, 0, #[], rfl, Nat.le_refl _, Blk.new w e #[], Nat.le_refl _, by unfold maxLen; omega, rfl, rfl⟩⟩
theorem str_info : (Try.prog.info? 9).map (fun i => (i.zero, i.size, i.bytes)) = some (some (.string ⟨#[]⟩), 1, 16) := by kernel_rfl

/-- The cells of texts. -/
def strC (l : List Tx) : List Value := l.map fun x => Value.string ⟨x.toArray⟩
theorem strC_append (l r : List Tx) : strC (l ++ r) = strC l ++ strC r := by simp [strC]
theorem strC_length (l : List Tx) : (strC l).length = l.length := by simp [strC]
theorem strC_get (l : List Tx) {i : Nat} (h : i < l.length) : (strC l)[i]? = some (.string ⟨(l.getD i []).toArray⟩) := by simp [strC, List.getD, h]
theorem strC_one (l : List Tx) : ∀ u ∈ strC l, u.oneCell' = true := by
  intro u hu
  simp only [strC, List.mem_map] at hu
  obtain ⟨x, _, rfl⟩ := hu
  rfl
/-- A slice of texts. -/
def IsT (w : World) (v : Value) (l : List Tx) : Prop :=
  (v = .slice none 0 0 ∧ l = []) ∨ ∃ g c cs, v = .slice (some ⟨g, 0, none⟩) l.length c ∧ l.length ≤ c ∧ Blk w g 9 cs ∧ ∀ i, i < l.length → cs[i]? = some (.string ⟨(l.getD i []).toArray⟩)
theorem IsT.below {w w' : World} {v : Value} {l : List Tx} (h : IsT w v l) (hb : Below w.heap.size w w') : IsT w' v l := by
  rcases h with h | ⟨g, c, cs, e, h1, h2, h3⟩
  · exact .inl h
  · exact .inr ⟨g, c, cs, e, h1, h2.on hb, h3⟩
theorem IsT.form {w : World} {v : Value} {l : List Tx} (h : IsT w v l) : ∃ A c, v = .slice A l.length c ∧ l.length ≤ c ∧ ∀ i, i < l.length → ∃ g, A = some ⟨g, 0, none⟩ ∧ g < w.heap.size ∧ w.cell? ⟨g, i, none⟩ = some (.string ⟨(l.getD i []).toArray⟩) := by
  rcases h with ⟨rfl, rfl⟩ | ⟨g, c, cs, rfl, h1, h2, h3⟩
  · exact ⟨none, 0, rfl, Nat.le_refl _, fun i hi => absurd hi (Nat.not_lt_zero _)⟩
  · exact ⟨_, c, rfl, h1, fun i hi => ⟨g, rfl, h2.lt, by rw [h2.cell, h3 i hi]⟩⟩
theorem own_isT {w : World} {B : Nat} {v : Value} {l : List Tx} (h : w.ownsRow B 9 1 v l.length (strC l)) : IsT w v l := by
  rcases h.2 with ⟨rfl, hn⟩ | ⟨g, cap, cur, rfl, hb, hh, hnc, hm, hs, hx⟩
  · exact .inl ⟨rfl, List.eq_nil_of_length_eq_zero hn⟩
  · refine .inr ⟨g, cap, cur, rfl, hnc, hh, fun i hi => ?_⟩
    have h1 := strC_get l hi
    rw [← hx, List.getElem?_take, if_pos (by omega)] at h1
    simpa using h1
/-- It answers a slice of texts. -/
def RetT (l : List Tx) (w : World) (e : Ending) (w' : World) : Prop := ∃ v, e = .returned v ∧ IsT w' v l ∧ Below w.heap.size w w'
/-- A slice of texts that came in. -/
def Came (w : World) (A : Option Addr) (l : List Tx) : Prop := ∀ i, i < l.length → ∃ ad, A = some ad ∧ ad.block < w.heap.size ∧ w.cell? (ad.add i) = some (.string ⟨(l.getD i []).toArray⟩)
theorem Came.below {w w' : World} {A : Option Addr} {l : List Tx} (h : Came w A l) (hb : Below w.heap.size w w') : Came w' A l := fun i hi => by
  obtain ⟨ad, e, h1, h2⟩ := h i hi
  exact ⟨ad, e, Nat.lt_of_lt_of_le h1 hb.size, (hb.cell (by rw [add_block]; exact h1)).trans h2⟩

theorem str_of_list {s : ByteArray} {l : Tx} (h : s.data.toList = l) : s = ⟨l.toArray⟩ := by
  subst h; rfl
theorem ext_take (s : ByteArray) (n : Nat) (h : n ≤ s.size) : s.extract 0 n = ⟨(s.data.toList.take n).toArray⟩ := by
  apply ByteArray.ext
  apply Array.toList_inj.1
  rw [ByteArray.data_extract, Array.toList_extract, List.extract_eq_take_drop]
  simp
theorem cut_any (x : Tx) (w : World) (hx : x.length ≤ 9223372036854775807) : Calls Try.prog 17 #[.string ⟨x.toArray⟩, .int .i64 30] w fun e w' => e = .returned (.string ⟨(x.take 30).toArray⟩) ∧ w = w' := by
  have hsz : (⟨x.toArray⟩ : ByteArray).size = x.length := by simp [ByteArray.size]
  by_cases h : 30 < (⟨x.toArray⟩ : ByteArray).size
  · have he : (⟨x.toArray⟩ : ByteArray).extract 0 30 = ⟨(x.take 30).toArray⟩ := ext_take ⟨x.toArray⟩ 30 (by omega)
    have HE := Lib.hid he
    clear he
    generalize (⟨x.toArray⟩ : ByteArray) = s at *
    go_enter Try.func17, Try.ntmps17
    go_wp2
    go_ret
    exact ⟨congrArg (fun z => Ending.returned (.string z)) HE.out, rfl⟩
  · have he : x.take 30 = x := List.take_of_length_le (by omega)
    rw [he]
    generalize (⟨x.toArray⟩ : ByteArray) = s at *
    go_enter Try.func17, Try.ntmps17
    go_wp2
    go_ret
    exact ⟨rfl, rfl⟩

theorem compare_any (a b : ByteArray) (w : World) : Calls Try.prog 28 #[.string a, .string b] w fun e w' => e = .returned (.int .i64 (Lib.compareBytes a.data.toList b.data.toList)) ∧ w = w' := by
  have hc := Try.strings_Compare a b w
  generalize Lib.compareBytes a.data.toList b.data.toList = r at *
  go_enter Try.func28, Try.ntmps28
  go_wp2_with (go_at_call 39; refine hc.mono ?_; rintro e w' ⟨rfl, rfl⟩)
  go_ret
  exact ⟨rfl, rfl⟩

/-- It answers a new slice of texts. -/
def RetO (l : List Tx) (w : World) (e : Ending) (w' : World) : Prop := ∃ v, e = .returned v ∧ w'.ownsRow w.heap.size 9 1 v l.length (strC l) ∧ Below w.heap.size w w'
/-- copied: of any texts, from any place on. -/
theorem copied_own (A : Option Addr) (c : Nat) (l : List Tx) (w : World) (hl : l.length ≤ 1000000) (h : (A = none ∧ l = [] ∧ c = 0) ∨ ∃ ad, A = some ad ∧ ∀ i, i < l.length → w.cell? (ad.add i) = some (.string ⟨(l.getD i []).toArray⟩)) :
    Calls Try.prog 26 #[.slice A l.length c] w (RetO l w) := by
  obtain ⟨i0, hi, hz0, hz1, hz2⟩ := info_parts str_info
  rcases h with ⟨rfl, rfl, rfl⟩ | ⟨ad, rfl, hc⟩
  · go_enter Try.func26, Try.ntmps26
    go_wp2_with (at_builtin; refine wpList_append_own_none rfl _ _ 22 rfl w.heap.size 9 i0 1 Try.underlying22 hi _ 0 [] rfl (World.ownsRow_nil w _ 9 1) rfl ?_)
    go_ret
    exact ⟨_, rfl, World.ownsRow_nil w _ 9 1, Below.refl _ _⟩
  · have hsrc : ∀ (j : Nat) (u : Value), (strC l)[j]? = some u → w.cell? (ad.add j) = some u := fun j u hu => by
      have hj : j < l.length := by
        rcases Nat.lt_or_ge j l.length with h1 | h1
        · exact h1
        · rw [List.getElem?_eq_none (by rw [strC_length]; exact h1)] at hu; cases hu
      rw [strC_get l hj] at hu
      rw [hc j hj, hu]
    clear hc
    obtain ⟨n, hn⟩ : ∃ n, Hid (l.length = n) := ⟨_, rfl⟩
    have hl' : n ≤ 1000000 := by rw [← hn.out]; exact hl
    have hcl : (strC l).length = n * 1 := by rw [strC_length, hn.out]; omega
    have HCL := Lib.hid hcl
    have HS := Lib.hid hsrc
    clear hcl hsrc
    rw [hn.out]
    go_enter Try.func26, Try.ntmps26
    go_wp2_with (at_builtin; refine wpList_append_own _ rfl _ _ 22 rfl w.heap.size 9 i0 (.string ⟨#[]⟩) 1 16 Try.underlying22 hi hz0 hz1 hz2 rfl (by decide) _ 0 [] rfl (World.ownsRow_nil w _ 9 1) ad n c (strC l) rfl HCL.out HS.out (strC_one l) (by unfold maxLen; omega) (by omega) (Nat.le_refl _) ?_; intro v' w2 hown hgrow _)
    go_ret
    exact ⟨_, rfl, by rw [hn.out]; simpa using hown, (Below.refl _ w).grown hgrow (Nat.le_refl _) (fun k hk => by cases hk)⟩
theorem copied_any (A : Option Addr) (c : Nat) (l : List Tx) (w : World) (hl : l.length ≤ 1000000) (h : (A = none ∧ l = [] ∧ c = 0) ∨ ∃ ad, A = some ad ∧ ∀ i, i < l.length → w.cell? (ad.add i) = some (.string ⟨(l.getD i []).toArray⟩)) :
    Calls Try.prog 26 #[.slice A l.length c] w (RetT l w) := (copied_own A c l w hl h).mono fun _ _ ⟨v, e, h1, h2⟩ => ⟨v, e, own_isT h1, h2⟩
theorem copied_isT (v : Value) (l : List Tx) (w : World) (hl : l.length ≤ 1000000) (h : IsT w v l) : Calls Try.prog 26 #[v] w (RetO l w) := by
  rcases h with ⟨rfl, rfl⟩ | ⟨g, c, cs, rfl, h1, h2, h3⟩
  · exact copied_own none 0 [] w hl (.inl ⟨rfl, rfl, rfl⟩)
  · exact copied_own _ c l w hl (.inr ⟨_, rfl, fun i hi => by rw [add_zero_block, h2.cell, h3 i hi]⟩)
end Go.Proofs.Ytanpncjnojjmkab
