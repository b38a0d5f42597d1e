/-
  Tables in memory: rows with their mappings; find's own comparison, BinarySearchFunc over the rows.
-/
import Derived.Test.YthmdapcieghbbabDoorMA
import Derived.Test.YthmdapcieghbbabDoorTM
namespace Go.Proofs.YthmdapcieghbbabDoor
set_option linter.unusedVariables false
set_option maxRecDepth 20000
open Go.RowKit

/-- The rows T lie at A. -/
def TabAt (w : World) (A : Option Addr) (T : List Rw) : Prop :=
  T ≠ [] → ∃ g, A = some ⟨g, 0, none⟩ ∧ g < w.heap.size ∧ ∀ i, i < T.length → w.cell? ⟨g, i * 3, none⟩ = some (.int .i32 (T.getD i Rw.nil).code) ∧ w.cell? ⟨g, i * 3 + 1, none⟩ = some (.int .i64 (T.getD i Rw.nil).cls) ∧ w.cell? ⟨g, i * 3 + 2, none⟩ = some (T.getD i Rw.nil).slice
theorem TabAt.below {w w' : World} {A : Option Addr} {T : List Rw} (h : TabAt w A T) (hb : Below w.heap.size w w') : TabAt w' A T := fun hn => by
  obtain ⟨g, e, hl, hc⟩ := h hn
  refine ⟨g, e, Nat.lt_of_lt_of_le hl hb.size, fun i hi => ?_⟩
  obtain ⟨h1, h2, h3⟩ := hc i hi
  exact ⟨(hb.cell (p := ⟨g, _, none⟩) hl).trans h1, (hb.cell (p := ⟨g, _, none⟩) hl).trans h2, (hb.cell (p := ⟨g, _, none⟩) hl).trans h3⟩
theorem TabAt.at_ {w : World} {A : Option Addr} {T : List Rw} (h : TabAt w A T) {i : Nat} (hi : i < T.length) : ∃ g, A = some ⟨g, 0, none⟩ ∧ g < w.heap.size ∧ w.cell? ⟨g, i * 3, none⟩ = some (.int .i32 (T.getD i Rw.nil).code) ∧ w.cell? ⟨g, i * 3 + 1, none⟩ = some (.int .i64 (T.getD i Rw.nil).cls) ∧ w.cell? ⟨g, i * 3 + 2, none⟩ = some (T.getD i Rw.nil).slice := by
  obtain ⟨g, e, hl, hc⟩ := h (by intro e; simp [e] at hi)
  exact ⟨g, e, hl, hc i hi⟩

/-- A row against a number. -/
theorem against_any (c k x : Int) (A : Option Addr) (n q : Nat) (w : World) :
    Calls Tryd.prog 49 #[.agg #[.int .i32 c, .int .i64 k, .slice A n q], .int .i32 x] w (RetV (.int .i64 (cmpI c x)) w) := by
  have HC := Lib.hid fun W => compare_any c x W
  generalize cmpI c x = r at *
  go_enter Tryd.func49, Tryd.ntmps49
  go_wp2_with fail
  refine (HC.out _).mono ?_
  rintro e w1 ⟨rfl, rfl⟩
  go_wp2
  go_ret
  exact ⟨rfl, below_new w _⟩

theorem cmpI_lt {c x : Int} : decide (cmpI c x < 0) = decide (c < x) := by
  unfold cmpI
  by_cases h : c < x
  · simp [h]
  · by_cases h2 : x < c <;> simp [h, h2]
theorem cmpI_eq {c x : Int} : decide (cmpI c x = 0) = decide (c = x) := by
  unfold cmpI
  by_cases h : c < x
  · simp [h]; omega
  · by_cases h2 : x < c
    · simp [h, h2]; omega
    · simp [h, h2]; omega

theorem ret_ib {a : Int} {z z' : Bool} (h : z = z') : Ending.returned (.tuple #[.int .i64 a, .bool z]) = .returned (.tuple #[.int .i64 a, .bool z']) := by rw [h]
set_option maxHeartbeats 1000000 in
/-- slices.BinarySearchFunc over rows that rise: where the number's row stands, or would stand. -/
theorem bin_any (A : Option Addr) (q m : Nat) (T : List Rw) (x : Int) (w : World) (ht : TabAt w A T) (hn : T.length ≤ 2000000) (hm : m ≤ T.length) (hp : ∀ i, i < T.length → ((T.getD i Rw.nil).code < x ↔ i < m)) :
    Calls Tryd.prog 48 #[.slice A T.length q, .int .i32 x, .func (.func 49) #[] #[]] w (RetV (.tuple #[.int .i64 (m : Int), .bool (decide (m < T.length ∧ (T.getD m Rw.nil).code = x))]) w) := by
  have HT := Lib.hid fun W (hb : Below w.heap.size w W) => ht.below hb
  have HP := Lib.hid hp
  clear hp ht
  obtain ⟨n, hn'⟩ : ∃ n, T.length = n := ⟨_, rfl⟩
  rw [hn'] at hm hn HP ⊢
  go_enter Tryd.func48, Tryd.ntmps48
  go_wp2
  go_loopw [9, 10] (fun s t wr => ∃ lo hi : Nat, s = .int .i64 (lo : Int) ∧ t = .int .i64 (hi : Int) ∧ lo ≤ m ∧ m ≤ hi ∧ hi ≤ n ∧ Below w.heap.size w wr) (fun s t _ => (intOf t).toNat - (intOf s).toNat)
  case atStart => exact ⟨0, n, rfl, rfl, by omega, hm, by omega, Below.refl _ _⟩
  case round =>
    obtain ⟨lo, hi, rfl, rfl, h1, h2, h3, hb⟩ := hrel
    by_cases hlt : lo < hi
    · obtain ⟨k, hk⟩ : ∃ k, (lo + hi) / 2 = k := ⟨_, rfl⟩
      have hk' : ((lo : Int) + (hi : Int)) / 2 = (k : Int) := by omega
      have hk1 : lo ≤ k := by omega
      have hk2 : k < hi := by omega
      have hpk := HP.out k (by omega)
      obtain ⟨g, rfl, hg, c1, c2, c3⟩ := (HT.out _ hb).at_ (i := k) (by omega)
      unfold Rw.slice at c3
      have HC := Lib.hid fun W => against_any (T.getD k Rw.nil).code (T.getD k Rw.nil).cls x (T.getD k Rw.nil).at_ (T.getD k Rw.nil).map.length (T.getD k Rw.nil).cap W
      have hd := cmpI_lt (c := (T.getD k Rw.nil).code) (x := x)
      generalize (T.getD k Rw.nil).code = rc at *
      generalize (T.getD k Rw.nil).cls = rk at *
      generalize (T.getD k Rw.nil).at_ = ra at *
      generalize (T.getD k Rw.nil).map.length = rn at *
      generalize (T.getD k Rw.nil).cap = rq at *
      generalize cmpI rc x = r at *
      clear hk
      by_cases hr : r < 0
      · have hmk : k < m := hpk.1 (by simpa [hr] using hd)
        clear hpk hd
        go_wp2_with fail
        refine (HC.out _).mono ?_
        rintro e w1 ⟨rfl, y1⟩
        go_wp2
        go_roundw
        case rel => exact ⟨k + 1, hi, by go_num, rfl, by omega, h2, h3, below_step hb y1⟩
        case measure => simp [intOf]; omega
      · have hmk : ¬ k < m := fun h => by have := hpk.2 h; simp [hr, this] at hd
        clear hpk hd
        go_wp2_with fail
        refine (HC.out _).mono ?_
        rintro e w1 ⟨rfl, y1⟩
        go_wp2
        go_roundw
        case rel => exact ⟨lo, k, rfl, rfl, h1, by omega, by omega, below_step hb y1⟩
        case measure => simp [intOf]; omega
    · obtain rfl : lo = hi := by omega
      obtain rfl : lo = m := by omega
      by_cases hl : lo < n
      · obtain ⟨g, rfl, hg, c1, c2, c3⟩ := (HT.out _ hb).at_ (i := lo) (by omega)
        unfold Rw.slice at c3
        have HC := Lib.hid fun W => against_any (T.getD lo Rw.nil).code (T.getD lo Rw.nil).cls x (T.getD lo Rw.nil).at_ (T.getD lo Rw.nil).map.length (T.getD lo Rw.nil).cap W
        have hd := cmpI_eq (c := (T.getD lo Rw.nil).code) (x := x)
        have hz : (cmpI (T.getD lo Rw.nil).code x == 0) = decide (lo < n ∧ (T.getD lo Rw.nil).code = x) := by
          rw [show (cmpI (T.getD lo Rw.nil).code x == 0) = decide (cmpI (T.getD lo Rw.nil).code x = 0) from rfl, hd]
          simp [hl]
        clear hd
        replace hz := Lib.hid hz
        generalize (T.getD lo Rw.nil).code = rc at *
        generalize (T.getD lo Rw.nil).cls = rk at *
        generalize (T.getD lo Rw.nil).at_ = ra at *
        generalize (T.getD lo Rw.nil).map.length = rn at *
        generalize (T.getD lo Rw.nil).cap = rq at *
        generalize cmpI rc x = r at *
        go_wp2_with fail
        refine (HC.out _).mono ?_
        rintro e w1 ⟨rfl, y1⟩
        go_wp2
        go_ret2
        exact ⟨ret_ib hz.out, below_step hb y1⟩
      · have hz := Lib.hid (show false = decide (lo < n ∧ (T.getD lo Rw.nil).code = x) by simp [hl])
        go_wp2
        go_ret2
        exact ⟨ret_ib hz.out, hb⟩
end Go.Proofs.YthmdapcieghbbabDoor
