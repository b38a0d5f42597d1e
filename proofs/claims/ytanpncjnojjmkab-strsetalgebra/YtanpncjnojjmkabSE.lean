/-
  Begin and Between of a set of texts.
-/
import Derived.Test.YtanpncjnojjmkabSD
import Derived.Test.YtanpncjnojjmkabSEM
namespace Go.Proofs.Ytanpncjnojjmkab
set_option linter.unusedVariables false
set_option maxRecDepth 20000
open Go.RowKit

/-- sort.Search, of a function that only makes memory: how many places say no, where those that say yes are the last ones. -/
theorem search_any (g : Nat) (cb : Array Value) (n m : Nat) (p : Nat → Bool) (w : World) (hn : n ≤ 2000000) (hm : m ≤ n) (hp : ∀ i, i < n → (p i = true ↔ m ≤ i)) (eg : ∀ args w, (callFunc g args).run Try.prog w = .ok (.enter g args) w)
    (hf : ∀ W, Below w.heap.size w W → ∀ i : Nat, i < n → Calls Try.prog g (#[.int .i64 (i : Int)] ++ cb) W (RetV (.bool (p i)) W)) :
    Calls Try.prog 34 #[.int .i64 (n : Int), .func (.func g) #[] cb] w (RetV (.int .i64 (m : Nat)) w) := by
  have HF := Lib.hid hf
  have HP := Lib.hid hp
  clear hf hp
  go_enter Try.func34, Try.ntmps34
  go_wp2
  go_loopw [5, 6] (fun s t wr => ∃ lo hi : Nat, s = .int .i64 (lo : Int) ∧ t = .int .i64 (hi : Int) ∧ lo ≤ m ∧ m ≤ hi ∧ hi ≤ n ∧ Below w.heap.size w wr) (fun s t _ => (intOf t).toNat - (intOf s).toNat)
  case atStart => exact ⟨0, n, rfl, rfl, by omega, hm, by omega, Below.refl _ _⟩
  case round =>
    obtain ⟨lo, hi, rfl, rfl, h1, h2, h3, hb⟩ := hrel
    by_cases hlt : lo < hi
    · obtain ⟨k, hk⟩ : ∃ k, (lo + hi) / 2 = k := ⟨_, rfl⟩
      have hc := HF.out _ hb k (by omega)
      have hpk := HP.out k (by omega)
      have hk' : ((lo : Int) + (hi : Int)) / 2 = (k : Int) := by omega
      have hk1 : lo ≤ k := by omega
      have hk2 : k < hi := by omega
      have HC := Lib.hid hc
      clear hc hk
      cases hpb : p k with
      | true =>
        have hmk : m ≤ k := hpk.1 hpb
        rw [hpb] at HC
        clear hpk hpb
        go_wp2_with fail
        refine HC.out.mono ?_
        rintro e w1 ⟨rfl, y1⟩
        go_wp2
        go_roundw
        case rel => exact ⟨lo, k, rfl, rfl, h1, hmk, by omega, below_step hb y1⟩
        case measure => simp [intOf]; omega
      | false =>
        have hmk : ¬ m ≤ k := fun h => by have := hpk.2 h; rw [hpb] at this; cases this
        rw [hpb] at HC
        clear hpk hpb
        go_wp2_with fail
        refine HC.out.mono ?_
        rintro e w1 ⟨rfl, y1⟩
        go_wp2
        go_roundw
        case rel => exact ⟨k + 1, hi, by go_num, rfl, by omega, h2, h3, below_step hb y1⟩
        case measure => simp [intOf]; omega
    · obtain rfl : lo = hi := by omega
      obtain rfl : lo = m := by omega
      go_wp2
      go_ret
      exact ⟨rfl, hb⟩


/-- Texts from some place on, in a block of texts. -/
def Part (w : World) (A : Option Addr) (c : Nat) (l : List Tx) : Prop := l.length ≤ c ∧ ((A = none ∧ l = [] ∧ c = 0) ∨ ∃ ad, A = some ad ∧ ad.block < w.heap.size ∧ ∀ i, i < l.length → w.cell? (ad.add i) = some (.string ⟨(l.getD i []).toArray⟩))
theorem Part.below {w w' : World} {A : Option Addr} {c : Nat} {l : List Tx} (h : Part w A c l) (hb : Below w.heap.size w w') : Part w' A c l := by
  refine ⟨h.1, ?_⟩
  rcases h.2 with h | ⟨ad, e, h1, h2⟩
  · exact .inl h
  · exact .inr ⟨ad, e, Nat.lt_of_lt_of_le h1 hb.size, fun i hi => (hb.cell (by rw [add_block]; exact h1)).trans (h2 i hi)⟩
theorem Part.copied {w : World} {A : Option Addr} {c : Nat} {l : List Tx} (h : Part w A c l) (hl : l.length ≤ 1000000) : Calls Try.prog 26 #[.slice A l.length c] w (RetT l w) := by
  refine copied_any A c l w hl ?_
  rcases h.2 with h | ⟨ad, e, h1, h2⟩
  · exact .inl h
  · exact .inr ⟨ad, e, h2⟩
theorem getD_drop (l : List Tx) (k i : Nat) : (l.drop k).getD i [] = l.getD (k + i) [] := by simp [List.getD]
theorem getD_take (l : List Tx) {k i : Nat} (h : i < k) : (l.take k).getD i [] = l.getD i [] := by simp [List.getD, h]
theorem IsT.part {w : World} {A : Option Addr} {c : Nat} {l : List Tx} (h : IsT w (.slice A l.length c) l) : Part w A c l := by
  rcases h with ⟨e, h2⟩ | ⟨g, c', cs, e, h1, h2, h3⟩
  · injection e with e1 e2 e3
    subst e3
    exact ⟨by omega, .inl ⟨e1, h2, rfl⟩⟩
  · injection e with e1 e2 e3
    subst e3
    exact ⟨h1, .inr ⟨_, e1, h2.lt, fun i hi => by rw [add_zero_block, h2.cell, h3 i hi]⟩⟩
theorem Part.take {w : World} {A : Option Addr} {c : Nat} {l : List Tx} (h : Part w A c l) (m : Nat) : Part w A c (l.take m) := by
  refine ⟨by rw [List.length_take]; have := h.1; omega, ?_⟩
  rcases h.2 with ⟨h1, h2, h3⟩ | ⟨ad, e, h1, h2⟩
  · exact .inl ⟨h1, by rw [h2]; simp, h3⟩
  · refine .inr ⟨ad, e, h1, fun i hi => ?_⟩
    rw [List.length_take] at hi
    rw [getD_take l (by omega)]
    exact h2 i (by omega)
/-- From the k-th on. -/
theorem Part.from_ {w : World} {A : Option Addr} {c : Nat} {l : List Tx} (h : Part w A c l) {k : Nat} (hk : k ≤ l.length) (hl : l.length ≤ 1000000) : ∃ A', Part w A' (c - k) (l.drop k) ∧
    (∀ W, (Instr.slice 22 (.slice A l.length c) (some (.int .i64 (k : Int))) none none).run Try.prog W = .ok (.slice A' (l.length - k) (c - k)) W) ∧
    ∀ m, k ≤ m → m ≤ l.length → ∀ W, (Instr.slice 22 (.slice A l.length c) (some (.int .i64 (k : Int))) (some (.int .i64 (m : Int))) none).run Try.prog W = .ok (.slice A' (m - k) (c - k)) W := by
  have hc := h.1
  refine ⟨if c = k then A else A.map (·.add (k * 1)), ⟨by rw [List.length_drop]; omega, ?_⟩, fun W => ?_, fun m h1 h2 W => ?_⟩
  · rcases h.2 with ⟨h1, h2, h3⟩ | ⟨ad, rfl, h1, h2⟩
    · subst h2
      simp at hk
      exact .inl ⟨by rw [h1]; simp, by simp, by omega⟩
    · by_cases hck : c = k
      · rw [if_pos hck]
        exact .inr ⟨ad, rfl, h1, fun i hi => by rw [List.length_drop] at hi; omega⟩
      · rw [if_neg hck]
        refine .inr ⟨ad.add (k * 1), rfl, by rw [add_block]; exact h1, fun i hi => ?_⟩
        rw [List.length_drop] at hi
        rw [add_add, Nat.mul_one, getD_drop]
        exact h2 _ (by omega)
  · rw [run_slice_l W 22 A l.length c Try.underlying22 .i64 k (by omega) (by omega)]
    rw [show Try.prog.elem 22 = 9 by kernel_rfl, Try.sizeOf9]
    simp [Result.andThen, sliced]
  · rw [run_slice_lh W 22 A l.length c Try.underlying22 .i64 .i64 k m (by omega) (by omega) (by omega)]
    rw [show Try.prog.elem 22 = 9 by kernel_rfl, Try.sizeOf9]
    simp [Result.andThen, sliced]
theorem Part.upto {w : World} {A : Option Addr} {c : Nat} {l : List Tx} (h : Part w A c l) {m : Nat} (hm : m ≤ l.length) (W : World) : (Instr.slice 22 (.slice A l.length c) none (some (.int .i64 (m : Int))) none).run Try.prog W = .ok (.slice A m c) W := by
  have hc := h.1
  rw [run_slice_h W 22 A l.length c Try.underlying22 .i64 m (by omega) (by omega)]
  rw [show Try.prog.elem 22 = 9 by kernel_rfl, Try.sizeOf9]
  have h0 : ∀ a : Addr, a.add 0 = a := fun a => by unfold Addr.add; simp
  cases A <;> simp [Result.andThen, sliced, h0]
end Go.Proofs.Ytanpncjnojjmkab
