/-
  What the laws on chains share: links that fit; Text and Error of any chain.
-/
import Derived.Test.YtpokpkocinhbfabDoorJ
import Derived.Laws.AppendOwnNone
import Derived.IntWalk
namespace Go.Proofs.YtpokpkocinhbfabDoor
set_option linter.unusedVariables false
set_option maxRecDepth 20000
open Go.RowKit Go.Extern.Stop Go.Stop Go.Extern

theorem fewCode_in (c : Int) : 1 ≤ fewCode c ∧ fewCode c ≤ 16 := by
  have h1 : -16 < c.tmod 16 ∧ c.tmod 16 < 16 := by
    have := Int.tmod_lt_of_pos c (show (0 : Int) < 16 by decide)
    have := Int.lt_tmod_of_pos c (show (0 : Int) < 16 by decide)
    omega
  have e1 : wrap64 (c.tmod 16 + 16) = c.tmod 16 + 16 := IntWalk.wrap64_in _ (by omega)
  have h2 : 0 ≤ (c.tmod 16 + 16).tmod 16 ∧ (c.tmod 16 + 16).tmod 16 < 16 := ⟨Int.tmod_nonneg _ (by omega), Int.tmod_lt_of_pos _ (by decide)⟩
  have e2 : wrap64 (1 + (c.tmod 16 + 16).tmod 16) = 1 + (c.tmod 16 + 16).tmod 16 := IntWalk.wrap64_in _ (by omega)
  unfold fewCode
  rw [e1, e2]
  omega
theorem cut20_size (s : ByteArray) : (cut20 s).size ≤ 20 := by
  unfold cut20
  split
  · rw [ByteArray.size_extract]; omega
  · omega
theorem few1_fits {x : Lk} (h : -9223372036854775808 ≤ x.line ∧ x.line ≤ 9223372036854775807) : (few1 x).Fits := by
  have := fewCode_in x.code
  have := cut20_size x.note
  exact ⟨⟨by show _ ≤ fewCode _; omega, by show fewCode _ ≤ _; omega⟩, h, by show (cut20 _).size ≤ _; omega⟩

theorem text_all (v : Value) (l : List Lk) (w : World) (he : Env w) (h : Chn w v l) (hl : l.length ≤ 1000) (hf : ∀ y ∈ l, y.Fits) :
    Calls Tryd.prog 18 #[v] w (RetV (.string ⟨(textOf l).toArray⟩) w) := by
  cases l with
  | nil =>
    obtain rfl : v = .nilIface := h
    exact (text_nil w).mono fun e w' ⟨h1, h2⟩ => ⟨h1, h2 ▸ Below.refl _ _⟩
  | cons x r => exact text_any v x r w he h hl hf

theorem error_any (g : Nat) (x : Lk) (r : List Lk) (w : World) (he : Env w) (h : Chn w (.iface 36 (.pointer (some ⟨g, 0, none⟩))) (x :: r)) (hl : (x :: r).length ≤ 1000) (hf : ∀ y ∈ x :: r, y.Fits) :
    Calls Tryd.prog 20 #[.pointer (some ⟨g, 0, none⟩)] w (RetV (.string ⟨(textOf (x :: r)).toArray⟩) w) := by
  go_enter Tryd.func20, Tryd.ntmps20
  go_wp2_with fail
  refine (text_any _ x r w he h hl hf).mono ?_
  rintro e w1 ⟨rfl, hb⟩
  go_wp2
  go_ret
  exact ⟨rfl, hb⟩

/-- Links that came in, in the walk's words. -/
def CameL (w : World) (A : Option Addr) (n c : Nat) (l : List Lk) : Prop := l.length = n ∧ Links w A l ∧ ∀ x ∈ l, -9223372036854775808 ≤ x.line ∧ x.line ≤ 9223372036854775807

theorem CameL.few {w : World} {A : Option Addr} {n c : Nat} {l : List Lk} (h : CameL w A n c l) : ∃ l' : List Lk, l'.length ≤ 12 ∧ (∀ y ∈ l', y.Fits) ∧ ((∀ y ∈ l', 1 ≤ y.code ∧ y.code ≤ 16) ∧
    ∀ w', Below w.heap.size w w' → Calls Tryd.prog 9 #[.slice A n c] w' fun e w'' => ∃ u, e = .returned u ∧ w''.ownsRow w'.heap.size 40 3 u l'.length (linkCells l') ∧ Below w'.heap.size w' w'') := by
  obtain ⟨rfl, hL, hx⟩ := h
  refine ⟨(l.take 12).map few1, by simp; omega, ?_, ?_, fun w' hb => few_any A c l w' (hL.kept hb)⟩
  · intro y hy
    obtain ⟨x, hx1, rfl⟩ := List.mem_map.1 hy
    exact few1_fits (hx x (List.mem_of_mem_take hx1))
  · intro y hy
    obtain ⟨x, _, rfl⟩ := List.mem_map.1 hy
    exact fewCode_in _
end Go.Proofs.YtpokpkocinhbfabDoor
