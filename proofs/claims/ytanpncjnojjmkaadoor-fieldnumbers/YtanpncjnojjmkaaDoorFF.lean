/-
  field.Split, the laws' same, the document's Strip: their contracts.
-/
import Derived.Test.YtanpncjnojjmkaaDoorFE
namespace Go.Proofs.YtanpncjnojjmkaaDoor
set_option linter.unusedVariables false
set_option maxRecDepth 20000
open Go.RowKit

theorem split_list (s : ByteArray) (c : UInt8) : (Lib.splitB ⟨#[c]⟩ 0 (Lib.countB s ⟨#[c]⟩) s).map Value.string = strC (spl c s.data.toList []) := by
  have h := Lib.splitB_data ⟨#[c]⟩ 0 (Lib.countB s ⟨#[c]⟩) s
  rw [show (⟨#[c]⟩ : ByteArray).data.toList = [c] from rfl, splitK_spl c _ _ (by show _ ≤ Lib.count s.data.toList [c]; rw [Lib.count_one]; exact Nat.le_refl _)] at h
  rw [strC, ← h, List.map_map]
  apply List.map_congr_left
  intro x _
  rfl
theorem split_count (s : ByteArray) (c : UInt8) : Lib.countB s ⟨#[c]⟩ + 1 = (spl c s.data.toList []).length := by
  show Lib.count s.data.toList [c] + 1 = _
  rw [Lib.count_one]
  have : ∀ (l w : List UInt8), l.count c + 1 = (spl c l w).length := by
    intro l
    induction l with
    | nil => intro w; rfl
    | cons b r ih =>
      intro w
      rw [spl]
      by_cases h : b = c
      · rw [if_pos h, List.length_cons, ← ih []]; simp [h]
      · rw [if_neg h, ← ih, List.count_cons_of_ne h]
  exact this _ _
theorem libSplit_any (s : ByteArray) (c : UInt8) (w : World) (he : Env w) (hs : s.size ≤ 1000000) : Calls Tryd.prog 20 #[.string s, .string ⟨#[c]⟩] w (RetT (spl c s.data.toList []) w) := by
  obtain ⟨_, m, hm⟩ := he
  refine (Tryd.strings_Split s ⟨#[c]⟩ m w (by omega) hm (Nat.le_refl 1)).mono ?_
  rintro e w1 ⟨rfl, rfl⟩
  rw [split_list, split_count]
  refine ⟨_, rfl, ⟨_, _, rfl, fun _ => ⟨w.heap.size, rfl, by simp, fun i hi => ?_⟩⟩, below_new _ _⟩
  rw [(Blk.new w 9 _).cell]
  rw [List.getElem?_toArray]
  exact strC_get _ hi
theorem split_any (s : ByteArray) (w : World) (he : Env w) (hs : s.size ≤ 1000000) : Calls Tryd.prog 8 #[.string s] w (RetT (spl 59 s.data.toList []) w) := by
  have H := Lib.hid (libSplit_any s 59 w he hs)
  go_enter Tryd.func8, Tryd.ntmps8
  go_wp2_with fail
  refine H.out.mono ?_
  rintro e w1 ⟨v, rfl, hv, y1⟩
  go_wp2
  go_ret
  exact ⟨_, rfl, hv, y1⟩

theorem IsT.at_ {w : World} {A : Option Addr} {n c : Nat} {l : List (List UInt8)} (h : IsT w (.slice A n c) l) {i : Nat} (hi : i < l.length) : ∃ g, A = some ⟨g, 0, none⟩ ∧ g < w.heap.size ∧ w.cell? ⟨g, i, none⟩ = some (.string ⟨(l.getD i []).toArray⟩) := by
  obtain ⟨A', c', e, h1⟩ := h
  injection e with e1 e2 e3
  subst e1
  obtain ⟨g, e, h2, h3⟩ := h1 (by intro e; simp [e] at hi)
  exact ⟨g, e, h2, h3 i hi⟩
theorem IsT.len {w : World} {A : Option Addr} {n c : Nat} {l : List (List UInt8)} (h : IsT w (.slice A n c) l) : n = l.length := by
  obtain ⟨A', c', e, h1⟩ := h
  injection e
theorem IsT.shape {w : World} {v : Value} {l : List (List UInt8)} (h : IsT w v l) : ∃ A c, v = .slice A l.length c := by
  obtain ⟨A, c, e, _⟩ := h
  exact ⟨A, c, e⟩

set_option maxHeartbeats 2000000 in
theorem same_any (v u : Value) (l : List (List UInt8)) (w : World) (hv : IsT w v l) (hu : IsT w u l) (hl : l.length ≤ 1000000) : Calls Tryd.prog 9 #[v, u] w (RetV (.bool true) w) := by
  obtain ⟨A, c, rfl⟩ := hv.shape
  obtain ⟨B, d, rfl⟩ := hu.shape
  obtain ⟨n, hn⟩ : ∃ n, l.length = n := ⟨_, rfl⟩
  have HV := Lib.hid fun i hi => hv.at_ (i := i) hi
  have HU := Lib.hid fun i hi => hu.at_ (i := i) hi
  rw [hn] at HV HU hl ⊢
  clear hv hu
  go_enter Tryd.func9, Tryd.ntmps9
  go_wp2
  go_loopw [13] (fun t wr => ∃ i : Nat, t = .int .i64 i ∧ i ≤ n ∧ Below w.heap.size w wr) (fun t _ => n - (intOf t).toNat)
  case atStart => exact ⟨0, rfl, by omega, Below.refl _ _⟩
  case round =>
    obtain ⟨i, rfl, hi, hb⟩ := hrel
    by_cases hlt : i < n
    · obtain ⟨g, rfl, hg, hc⟩ := HV.out i hlt
      obtain ⟨g', rfl, hg', hc'⟩ := HU.out i hlt
      have hc1 := (hb.cell (p := ⟨g, i, none⟩) hg).trans hc
      have hc2 := (hb.cell (p := ⟨g', i, none⟩) hg').trans hc'
      generalize (l.getD i []).toArray = T at *
      clear hc hc' HV HU
      go_wp2
      go_region
      go_wp2
      go_roundw
      case rel => exact ⟨i + 1, by go_num, by omega, below_step hb (below_drew _)⟩
      case measure => simp [intOf]; omega
    · go_wp2
      go_ret
      exact ⟨rfl, hb⟩
end Go.Proofs.YtanpncjnojjmkaaDoor
