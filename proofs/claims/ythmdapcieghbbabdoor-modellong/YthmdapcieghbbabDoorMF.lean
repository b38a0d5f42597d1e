/-
  Tables: does a mapping hold a number of this kind (IndexFunc, ContainsFunc).
-/
import Derived.Test.YthmdapcieghbbabDoorME
namespace Go.Proofs.YthmdapcieghbbabDoor
set_option linter.unusedVariables false
set_option maxRecDepth 20000
open Go.RowKit

set_option maxHeartbeats 1000000 in
theorem idx_41 (A : Option Addr) (q : Nat) (l : List Int) (w : World) (h : RowI w A l) (hl : l.length ≤ 1000000) (hb : ∀ x ∈ l, -2147483648 ≤ x ∧ x ≤ 2147483647) :
    Calls Tryd.prog 54 #[.slice A l.length q, .func (.func 41) #[] #[]] w fun e w' => (∃ r : Int, e = .returned (.int .i64 r) ∧ decide (0 ≤ r) = l.any hangB) ∧ Below w.heap.size w w' := by
  have HR := Lib.hid fun W (hb : Below w.heap.size w W) => h.below hb
  have HB := Lib.hid hb
  clear h hb
  obtain ⟨n, hn⟩ : ∃ n, l.length = n := ⟨_, rfl⟩
  have HN := Lib.hid hn
  rw [hn] at hl ⊢
  clear hn
  have hall : Hid ((∀ j, j < n → hangB (l.getD j 0) = false) → l.any hangB = false) := Lib.hid fun ha => by
    rw [List.any_eq_false]
    intro x hx
    obtain ⟨j, hj, rfl⟩ := List.mem_iff_getElem.1 hx
    have := ha j (by rw [← HN.out]; exact hj)
    rw [List.getD_eq_getElem?_getD, List.getElem?_eq_getElem hj] at this
    simpa using this
  go_enter Tryd.func54, Tryd.ntmps54
  go_wp2
  go_loopw [8] (fun s wr => ∃ i : Nat, s = .int .i64 (i : Int) ∧ i ≤ n ∧ (∀ j, j < i → hangB (l.getD j 0) = false) ∧ Below w.heap.size w wr) (fun s _ => n - (intOf s).toNat)
  case atStart => exact ⟨0, rfl, by omega, fun j hj => absurd hj (Nat.not_lt_zero _), Below.refl _ _⟩
  case round =>
    obtain ⟨i, rfl, hi, hp, hb⟩ := hrel
    have HP := Lib.hid hp
    clear hp
    by_cases hlt : i < n
    · have hmem : Hid (l.getD i 0 ∈ l) := Lib.hid (by
        rw [List.getD_eq_getElem?_getD, List.getElem?_eq_getElem (by rw [HN.out]; exact hlt)]
        exact List.getElem_mem _)
      obtain ⟨g, rfl, hg, hc⟩ := (HR.out _ hb) (by intro e; rw [e] at HN; have := HN.out; simp at this; omega)
      have c1 := hc i (by rw [HN.out]; exact hlt)
      clear hc
      have HC : Hid (∀ W, Calls Tryd.prog 41 #[.int .i32 (l.getD i 0)] W (RetV (.bool (hangB (l.getD i 0))) W)) := Lib.hid fun W => isHangul_any (l.getD i 0) W (HB.out _ hmem.out).1 (HB.out _ hmem.out).2
      have hany : Hid (hangB (l.getD i 0) = true → l.any hangB = true) := Lib.hid fun e => List.any_eq_true.2 ⟨_, hmem.out, e⟩
      have hpi : Hid (hangB (l.getD i 0) = hangB (l.getD i 0)) := Lib.hid rfl
      generalize hx : l.getD i 0 = x at *
      obtain ⟨v, hv⟩ : ∃ v : Bool, hangB x = v := ⟨_, rfl⟩
      have HV := Lib.hid hv
      have hv2 : hangB x = v := hv
      rw [hv2] at HC
      clear hv hv2 hpi
      replace hx := Lib.hid hx
      cases v with
      | true =>
        go_wp2_with fail
        refine (HC.out _).mono ?_
        rintro e w1 ⟨rfl, y1⟩
        go_wp2
        go_ret
        exact ⟨⟨_, rfl, by rw [hany.out HV.out]; simp⟩, below_step hb y1⟩
      | false =>
        go_wp2_with fail
        refine (HC.out _).mono ?_
        rintro e w1 ⟨rfl, y1⟩
        go_wp2
        go_roundw
        case rel =>
          refine ⟨i + 1, by go_num, by omega, fun j hj => ?_, below_step hb y1⟩
          by_cases hji : j = i
          · subst hji
            rw [hx.out]
            exact HV.out
          · exact HP.out j (by omega)
        case measure => simp [intOf]; omega
    · obtain rfl : i = n := by omega
      go_wp2
      go_ret
      exact ⟨⟨-1, rfl, by rw [hall.out HP.out]; rfl⟩, hb⟩

theorem contains_41 (A : Option Addr) (q : Nat) (l : List Int) (w : World) (h : RowI w A l) (hl : l.length ≤ 1000000) (hb : ∀ x ∈ l, -2147483648 ≤ x ∧ x ≤ 2147483647) :
    Calls Tryd.prog 42 #[.slice A l.length q, .func (.func 41) #[] #[]] w (RetV (.bool (l.any hangB)) w) := by
  have HC := Lib.hid (idx_41 A q l w h hl hb)
  generalize l.any hangB = v at *
  generalize l.length = n at *
  clear h hl hb
  go_enter Tryd.func42, Tryd.ntmps42
  go_wp2_with fail
  refine HC.out.mono ?_
  rintro e w1 ⟨⟨r, rfl, hr⟩, y1⟩
  replace hr := Lib.hid hr
  go_wp2
  go_ret
  exact ⟨congrArg (fun z => Ending.returned (.bool z)) hr.out, y1⟩

set_option maxHeartbeats 1000000 in
theorem idx_43 (A : Option Addr) (q : Nat) (l : List Int) (w : World) (h : RowI w A l) (hl : l.length ≤ 1000000) (hb : ∀ x ∈ l, -2147483648 ≤ x ∧ x ≤ 2147483647) :
    Calls Tryd.prog 54 #[.slice A l.length q, .func (.func 43) #[] #[]] w fun e w' => (∃ r : Int, e = .returned (.int .i64 r) ∧ decide (0 ≤ r) = l.any noneB) ∧ Below w.heap.size w w' := by
  have HR := Lib.hid fun W (hb : Below w.heap.size w W) => h.below hb
  have HB := Lib.hid hb
  clear h hb
  obtain ⟨n, hn⟩ : ∃ n, l.length = n := ⟨_, rfl⟩
  have HN := Lib.hid hn
  rw [hn] at hl ⊢
  clear hn
  have hall : Hid ((∀ j, j < n → noneB (l.getD j 0) = false) → l.any noneB = false) := Lib.hid fun ha => by
    rw [List.any_eq_false]
    intro x hx
    obtain ⟨j, hj, rfl⟩ := List.mem_iff_getElem.1 hx
    have := ha j (by rw [← HN.out]; exact hj)
    rw [List.getD_eq_getElem?_getD, List.getElem?_eq_getElem hj] at this
    simpa using this
  go_enter Tryd.func54, Tryd.ntmps54
  go_wp2
  go_loopw [8] (fun s wr => ∃ i : Nat, s = .int .i64 (i : Int) ∧ i ≤ n ∧ (∀ j, j < i → noneB (l.getD j 0) = false) ∧ Below w.heap.size w wr) (fun s _ => n - (intOf s).toNat)
  case atStart => exact ⟨0, rfl, by omega, fun j hj => absurd hj (Nat.not_lt_zero _), Below.refl _ _⟩
  case round =>
    obtain ⟨i, rfl, hi, hp, hb⟩ := hrel
    have HP := Lib.hid hp
    clear hp
    by_cases hlt : i < n
    · have hmem : Hid (l.getD i 0 ∈ l) := Lib.hid (by
        rw [List.getD_eq_getElem?_getD, List.getElem?_eq_getElem (by rw [HN.out]; exact hlt)]
        exact List.getElem_mem _)
      obtain ⟨g, rfl, hg, hc⟩ := (HR.out _ hb) (by intro e; rw [e] at HN; have := HN.out; simp at this; omega)
      have c1 := hc i (by rw [HN.out]; exact hlt)
      clear hc
      have HC : Hid (∀ W, Calls Tryd.prog 43 #[.int .i32 (l.getD i 0)] W (RetV (.bool (noneB (l.getD i 0))) W)) := Lib.hid fun W => isNone_any (l.getD i 0) W
      have hany : Hid (noneB (l.getD i 0) = true → l.any noneB = true) := Lib.hid fun e => List.any_eq_true.2 ⟨_, hmem.out, e⟩
      have hpi : Hid (noneB (l.getD i 0) = noneB (l.getD i 0)) := Lib.hid rfl
      generalize hx : l.getD i 0 = x at *
      obtain ⟨v, hv⟩ : ∃ v : Bool, noneB x = v := ⟨_, rfl⟩
      have HV := Lib.hid hv
      have hv2 : noneB x = v := hv
      rw [hv2] at HC
      clear hv hv2 hpi
      replace hx := Lib.hid hx
      cases v with
      | true =>
        go_wp2_with fail
        refine (HC.out _).mono ?_
        rintro e w1 ⟨rfl, y1⟩
        go_wp2
        go_ret
        exact ⟨⟨_, rfl, by rw [hany.out HV.out]; simp⟩, below_step hb y1⟩
      | false =>
        go_wp2_with fail
        refine (HC.out _).mono ?_
        rintro e w1 ⟨rfl, y1⟩
        go_wp2
        go_roundw
        case rel =>
          refine ⟨i + 1, by go_num, by omega, fun j hj => ?_, below_step hb y1⟩
          by_cases hji : j = i
          · subst hji
            rw [hx.out]
            exact HV.out
          · exact HP.out j (by omega)
        case measure => simp [intOf]; omega
    · obtain rfl : i = n := by omega
      go_wp2
      go_ret
      exact ⟨⟨-1, rfl, by rw [hall.out HP.out]; rfl⟩, hb⟩

theorem contains_43 (A : Option Addr) (q : Nat) (l : List Int) (w : World) (h : RowI w A l) (hl : l.length ≤ 1000000) (hb : ∀ x ∈ l, -2147483648 ≤ x ∧ x ≤ 2147483647) :
    Calls Tryd.prog 42 #[.slice A l.length q, .func (.func 43) #[] #[]] w (RetV (.bool (l.any noneB)) w) := by
  have HC := Lib.hid (idx_43 A q l w h hl hb)
  generalize l.any noneB = v at *
  generalize l.length = n at *
  clear h hl hb
  go_enter Tryd.func42, Tryd.ntmps42
  go_wp2_with fail
  refine HC.out.mono ?_
  rintro e w1 ⟨⟨r, rfl, hr⟩, y1⟩
  replace hr := Lib.hid hr
  go_wp2
  go_ret
  exact ⟨congrArg (fun z => Ending.returned (.bool z)) hr.out, y1⟩
end Go.Proofs.YthmdapcieghbbabDoor
