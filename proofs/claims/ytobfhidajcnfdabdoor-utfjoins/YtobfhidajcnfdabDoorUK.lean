/-
  The document's Decode: its contract; the walk of the law on Decode.
-/
import Derived.Test.YtobfhidajcnfdabDoorUJ
namespace Go.Proofs.YtobfhidajcnfdabDoor
set_option linter.unusedVariables false
set_option maxRecDepth 20000
open Go.RowKit Go.Lib

theorem int_info : (Tryd.prog.info? 3).map (fun i => (i.zero, i.size, i.bytes)) = some (some (.int .i64 0), 1, 8) := by kernel_rfl
theorem own_empty (w : World) (e : TypeId) : (w.alloc (.cells #[] e)).ownsRow w.heap.size e 1 (.slice (some ⟨w.heap.size, 0, none⟩) 0 0) 0 [] :=
  ⟨rfl, .inr ⟨w.heap.size, 0, #[], rfl, Nat.le_refl _, Blk.new w e #[], Nat.le_refl _, by unfold maxLen; omega, rfl, rfl⟩⟩

/-- What the document's Decode answers. -/
def RetR (cs : List Nat) (rest : List UInt8) (w : World) (e : Ending) (w' : World) : Prop :=
  Below w.heap.size w w' ∧ ((rest = [] ∧ ∃ u, e = .returned (.tuple #[u, .int .i64 (-1)]) ∧ w'.ownsRow w.heap.size 3 1 u cs.length (cellsOf .i64 cs)) ∨ (rest ≠ [] ∧ e = .returned (.tuple #[.slice none 0 0, .int .i64 ((encs cs).length : Nat)])))

set_option maxHeartbeats 4000000 in
theorem refDecode_any (s : ByteArray) (w : World) (hs : s.size ≤ 1000000) (cs : List Nat) (rest : List UInt8) (h : Splits s.data.toList cs rest) :
    Calls Tryd.prog 10 #[.string s] w (RetR cs rest w) := by
  obtain ⟨i0, hi, hz0, hz1, hz2⟩ := info_parts int_info
  have hlen : s.data.toList.length = s.size := Array.length_toList
  have hfirst : ∀ j d k W, j ≤ s.size → FirstIs (s.data.toList.drop j) d k → Calls Tryd.prog 21 #[.string (s.extract j s.size)] W (RetV (.tuple #[.int .i64 (d : Nat), .int .i64 (k : Nat)]) W) := fun j d k W hj hd =>
    first_any _ W (by rw [ByteArray.size_extract]; omega) d k (by rw [drop_list s _ hj]; exact hd)
  replace hfirst := Lib.hid hfirst
  have htot : (encs cs).length + rest.length = s.size := by rw [← hlen, h.2.1, List.length_append]
  replace h := Lib.hid h
  go_enter Tryd.func10, Tryd.ntmps10
  go_wp2_with fail
  go_loopw [4, 5] (fun u4 a5 wr => ∃ dn left : List Nat, cs = dn ++ left ∧ a5 = .int .i64 ((encs dn).length : Nat) ∧ wr.ownsRow w.heap.size 3 1 u4 dn.length (cellsOf .i64 dn) ∧ Below w.heap.size w wr) (fun _ a5 _ => s.size - (intOf a5).toNat)
  case atStart => exact ⟨[], cs, rfl, rfl, own_empty w 3, below_new _ _⟩
  case round =>
    obtain ⟨dn, left, rfl, rfl, hrow, hbw⟩ := hrel
    have hbs := hbw.size
    obtain ⟨ao, cp, rfl⟩ := own_form hrow
    have hat := splits_at h.out
    rw [encs_append, List.length_append] at htot
    obtain ⟨a, ha⟩ : ∃ a, (encs dn).length = a := ⟨_, rfl⟩
    rw [ha] at hat htot ⊢
    have hdl := (encs_length_le dn).1
    by_cases hlt : a < s.size
    · rcases left with _ | ⟨c, left⟩
      · have HX := Lib.hid fun W => hfirst.out a 0 0 W (by omega) hat.stop
        have hrne : rest ≠ [] := by
          rintro rfl
          simp [encs] at htot; omega
        rw [List.append_nil] at *
        clear hfirst hat h htot
        go_wp2_with fail
        refine (HX.out _).mono ?_
        rintro e w1 ⟨rfl, y1⟩
        go_wp2
        go_ret2
        exact ⟨below_step hbw y1, .inr ⟨hrne, by rw [ha]; rfl⟩⟩
      · have hf := hat.first
        have hwp := wid_pos c
        have hwb : ((wid c : Int) == 0) = false := by rw [beq_eq_false_iff_ne]; omega
        have hst : (encs (dn ++ [c])).length = a + wid c := by rw [encs_snoc, List.length_append, ha, enc_length]
        rw [encs_cons, List.length_append, enc_length] at htot
        have HX := Lib.hid fun W => hfirst.out a c (wid c) W (by omega) hf
        have hcle : (c : Int) ≤ 1114111 := by have := (h.out.1 c (by simp)).le; omega
        generalize wid c = k at *
        replace hst := Lib.hid hst
        replace htot : a + k ≤ s.size := by omega
        have hq : dn.length ≤ 1000000 := by omega
        clear hfirst hat h hf
        go_wp2_with fail
        refine (HX.out _).mono ?_
        rintro e w1 ⟨rfl, y1⟩
        have hrow1 := own_kept hrow y1
        have hb1 := below_step hbw y1
        have hb1s := hb1.size
        clear hcle
        go_wp2_with (at_builtin; refine wpList_append_own _ rfl (.tmp 23) (.tmp 25) 24 rfl w.heap.size 3 i0 (.int .i64 0) 1 8 Tryd.underlying24 hi hz0 hz1 hz2 rfl (by decide) _ dn.length _ rfl (hrow1.alloc _) ⟨w1.heap.size, 0, none⟩ 1 1 [.int .i64 (c : Nat)] rfl rfl (cell_one_new _ _ _) (by simp [Value.oneCell']) (by unfold maxLen; omega) (by omega) (by simp; omega) ?_; intro v' w2 hown2 hgrow _; have hb2 : Below w.heap.size w w2 := (hb1.alloc hb1s _).grown hgrow (by simp; omega) (fun k hk => (hrow1.lt k hk).1); clear hgrow)
        go_roundw
        case rel => exact ⟨dn ++ [c], left, by simp, by rw [hst.out]; go_num, by rw [cellsOf_append]; simpa [cellsOf] using hown2, hb2⟩
        case measure => simp [intOf]; omega
    · have hl0 : left = [] ∧ rest = [] := by
        have h1 : (encs left).length = 0 := by omega
        have h2 : rest.length = 0 := by omega
        have h3 := (encs_length_le left).1
        exact ⟨List.length_eq_zero_iff.1 (by omega), List.length_eq_zero_iff.1 h2⟩
      obtain ⟨rfl, rfl⟩ := hl0
      rw [List.append_nil] at *
      clear hfirst hat h htot
      go_wp2
      go_ret2
      exact ⟨hbw, .inl ⟨rfl, _, rfl, hrow⟩⟩
end Go.Proofs.YtobfhidajcnfdabDoor
