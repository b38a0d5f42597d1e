/-
  The walk of the law on causes.
-/
import Derived.Test.YtpokpkocinhbfabDoorG
namespace Go.Proofs.YtpokpkocinhbfabDoor
set_option linter.unusedVariables false
set_option maxRecDepth 20000
open Go.RowKit Go.Extern.Stop Go.Stop Go.Extern

theorem below_drewN {B : Nat} {a w : World} (h : Below B a w) (n : Nat) : Below B a (w.drewN n) := ⟨h.os, h.tape, h.output, h.size, h.block⟩
theorem ints_at {zs : List Int} {i : Nat} {z : Int} (h : zs[i]? = some z) : (zs.map fun z => Value.int .i64 z)[i]? = some (.int .i64 z) := by simp [h]

set_option maxHeartbeats 4000000 in
theorem faultCauses_walk (c : Int) (w : World) (he : Env w) : Calls Tryd.prog 7 #[.int .i64 c] w (RetV (.bool true) w) := by
  obtain ⟨zs, hz, C1, C2⟩ := both_causes c
  have C1 := Lib.hid C1
  have C2 := Lib.hid C2
  go_enter Tryd.func7, Tryd.ntmps7
  go_wp2_with fail
  refine (awake_any w he).mono ?_
  rintro e w1 ⟨rfl, b1⟩
  go_wp2_with fail
  refine (C1.out _).mono ?_
  rintro e w2 ⟨u, rfl, hr2, b2⟩
  go_wp2_with fail
  refine (C2.out _).mono ?_
  rintro e w3 ⟨v, rfl, hr3, b3⟩
  have hr2 := own_kept hr2 b3
  have bw := below_step (below_step b1 b2) b3
  obtain ⟨ao, cap, rfl⟩ := own_form hr2
  obtain ⟨bo, cap', rfl⟩ := own_form hr3
  clear C1 C2 b1 b2 b3
  go_wp2
  go_loopg [19] zs.length (fun n i wx => ∃ k : Nat, k + n = zs.length ∧ i = .int .i64 k ∧ ∃ q, wx = w3.drewN q)
  case atStart => exact ⟨0, by omega, rfl, 0, rfl⟩
  case round =>
    obtain ⟨k, hk, rfl, q, rfl⟩ := hrel
    by_cases hlt : k < zs.length
    · obtain ⟨z, hzz⟩ : ∃ z, zs[k]? = some z := ⟨_, List.getElem?_eq_getElem hlt⟩
      obtain ⟨g, cp, hv, hc⟩ := own_at hr2 (ints_at hzz)
      obtain ⟨g', cp', hv', hc'⟩ := own_at hr3 (ints_at hzz)
      simp only [Value.slice.injEq] at hv hv'
      obtain ⟨rfl, _, rfl⟩ := hv
      obtain ⟨rfl, _, rfl⟩ := hv'
      have HK := Lib.hid hk
      clear hk hzz
      go_wp2_with fail
      go_quiet (fail)
      go_wp2
      go_roundg (zs.length - (k + 1))
      case measure => have := HK.out; omega
      case rel => exact ⟨k + 1, by omega, by go_num, _, rfl⟩
    · go_wp2
      go_ret
      exact ⟨rfl, below_drewN bw _⟩
end Go.Proofs.YtpokpkocinhbfabDoor
