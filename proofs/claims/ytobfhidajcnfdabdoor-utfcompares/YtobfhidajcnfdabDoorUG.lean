/-
  utf.Valid, the laws' Cut, their fixed fact.
-/
import Derived.Test.YtobfhidajcnfdabDoorUF
namespace Go.Proofs.YtobfhidajcnfdabDoor
set_option linter.unusedVariables false
set_option maxRecDepth 20000
open Go.RowKit Go.Lib

theorem cut_any (s : ByteArray) (n : Nat) (w : World) : Calls Tryd.prog 9 #[.string s, .int .i64 (n : Nat)] w fun e w' => ∃ s' : ByteArray, e = .returned (.string s') ∧ s'.size ≤ n ∧ Below w.heap.size w w' := by
  go_enter Tryd.func9, Tryd.ntmps9
  by_cases h : n < s.size
  · go_wp2
    go_ret
    exact ⟨_, rfl, by rw [ByteArray.size_extract]; omega, Below.refl _ _⟩
  · go_wp2
    go_ret
    exact ⟨_, rfl, by omega, Below.refl _ _⟩

set_option maxHeartbeats 4000000 in
theorem valid_any (s : ByteArray) (w : World) (he : Env w) (hs : s.size ≤ 1000000) (cs : List Nat) (rest : List UInt8) (h : Splits s.data.toList cs rest) (n : Nat) (b : Bool)
    (hnb : (rest = [] ∧ n = cs.length ∧ b = true) ∨ (rest ≠ [] ∧ n = (encs cs).length ∧ b = false)) :
    Calls Tryd.prog 11 #[.string s] w (RetV (.tuple #[.int .i64 (n : Nat), .bool b]) w) := by
  have hlen : s.data.toList.length = s.size := Array.length_toList
  have hnext : ∀ j d k W, Env W → j ≤ s.size → FirstIs (s.data.toList.drop j) d k → Calls Tryd.prog 20 #[.string (s.extract j s.size)] W (RetV (nextV d k) W) := fun j d k W hW hj hd =>
    next_any _ W hW (by rw [ByteArray.size_extract]; omega) d k (by rw [drop_list s _ hj]; exact hd)
  replace hnext := Lib.hid hnext
  have htot : (encs cs).length + rest.length = s.size := by rw [← hlen, h.2.1, List.length_append]
  replace h := Lib.hid h
  go_enter Tryd.func11, Tryd.ntmps11
  go_wp2_with fail
  go_loopw [4, 5] (fun n4 a5 wr => Below w.heap.size w wr ∧ ∃ dn left : List Nat, cs = dn ++ left ∧ n4 = .int .i64 (dn.length : Nat) ∧ a5 = .int .i64 ((encs dn).length : Nat)) (fun _ a5 _ => s.size - (intOf a5).toNat)
  case atStart => exact ⟨Below.refl _ _, [], cs, rfl, rfl, rfl⟩
  case round =>
    obtain ⟨hbw, dn, left, rfl, rfl, rfl⟩ := hrel
    have hat := splits_at h.out
    rw [encs_append, List.length_append] at htot
    obtain ⟨a, ha⟩ : ∃ a, (encs dn).length = a := ⟨_, rfl⟩
    rw [ha] at hat htot ⊢
    have hdl := (encs_length_le dn).1
    by_cases hlt : a < s.size
    · have he1 := he.kept hbw
      rcases left with _ | ⟨c, left⟩
      · have HX := Lib.hid fun W hW => hnext.out a 0 0 W hW (by omega) hat.stop
        rcases hnb with ⟨rfl, _, _⟩ | ⟨_, rfl, rfl⟩
        · simp [encs] at htot; omega
        rw [List.append_nil] at *
        rw [ha]
        simp only [nextV] at HX
        clear hnext hat h htot
        go_wp2_with fail
        refine (HX.out _ he1).mono ?_
        rintro e w1 ⟨rfl, y1⟩
        go_wp2
        go_ret2
        exact ⟨rfl, below_step hbw y1⟩
      · have hf := hat.first
        have hwp := wid_pos c
        have hd0 : decide (0 < wid c) = true := by simp; omega
        have hst : (encs (dn ++ [c])).length = a + wid c := by rw [encs_snoc, List.length_append, ha, enc_length]
        rw [encs_cons, List.length_append, enc_length] at htot
        have HX := Lib.hid fun W hW => hnext.out a c (wid c) W hW (by omega) hf
        simp only [nextV, hd0] at HX
        generalize wid c = k at *
        generalize hdn : dn.length = q at *
        replace hst := Lib.hid hst
        replace htot : a + k ≤ s.size := by omega
        clear hnext hat h hf hnb
        go_wp2_with fail
        refine (HX.out _ he1).mono ?_
        rintro e w1 ⟨rfl, y1⟩
        go_wp2
        go_roundw
        case rel => exact ⟨below_step hbw y1, dn ++ [c], left, by simp, by rw [List.length_append, hdn]; go_num, by rw [hst.out]; go_num⟩
        case measure => simp [intOf]; omega
    · have hl0 : left = [] ∧ rest = [] := by
        have h1 : (encs left).length = 0 := by omega
        have h2 : rest.length = 0 := by omega
        have h3 := (encs_length_le left).1
        exact ⟨List.length_eq_zero_iff.1 (by omega), List.length_eq_zero_iff.1 h2⟩
      obtain ⟨rfl, rfl⟩ := hl0
      rcases hnb with ⟨_, rfl, rfl⟩ | ⟨h5, _, _⟩
      · rw [List.append_nil] at *
        clear hnext hat h htot
        generalize dn.length = q at *
        go_wp2
        go_ret2
        exact ⟨rfl, hbw⟩
      · exact absurd rfl h5

theorem euro : FirstIs [226, 130, 172] 8364 3 := .inl ⟨⟨by decide, [], by decide⟩, by decide⟩
theorem no_surrogate : Splits [237, 160, 128] [] [237, 160, 128] := ⟨by simp, rfl, fun d hd => by
  have h1 := begins_told hd
  have h2 : wid d = 3 := h1.1.symm.trans (by decide)
  have h3 := h1.2.2.2
  rw [h2] at h3
  have h4 : d = 55296 := h3.symm.trans (by decide)
  subst h4
  exact absurd hd.1 (by decide)⟩
theorem awake_any (w : World) (he : Env w) : Calls Tryd.prog 8 #[] w (RetV (.bool true) w) := by
  have H1 := Lib.hid (next_any ⟨#[226, 130, 172]⟩ w he (by decide) 8364 3 euro)
  have H2 := Lib.hid fun W hW => valid_any ⟨#[237, 160, 128]⟩ W hW (by decide) [] [237, 160, 128] no_surrogate 0 false (.inr ⟨by simp, rfl, rfl⟩)
  simp only [nextV] at H1
  go_enter Tryd.func8, Tryd.ntmps8
  go_wp2_with fail
  refine H1.out.mono ?_
  rintro e w1 ⟨rfl, y1⟩
  go_wp2_with fail
  refine (H2.out _ (he.kept y1)).mono ?_
  rintro e w2 ⟨rfl, y2⟩
  go_wp2
  go_ret
  exact ⟨rfl, below_step y1 y2⟩
end Go.Proofs.YtobfhidajcnfdabDoor
