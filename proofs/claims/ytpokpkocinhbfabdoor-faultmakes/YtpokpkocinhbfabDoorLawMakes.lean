/-
  The walk of the law on what is made of a number, a line and a note.
-/
import Derived.Test.YtpokpkocinhbfabDoorLawCauses
namespace Go.Proofs.YtpokpkocinhbfabDoor
set_option linter.unusedVariables false
set_option maxRecDepth 20000
open Go.RowKit Go.Extern.Stop Go.Stop Go.Extern

set_option maxHeartbeats 4000000 in
theorem faultMakes_walk (c n : Int) (s : ByteArray) (w : World) (he : Env w) : Calls Tryd.prog 6 #[.int .i64 c, .int .i64 n, .string s] w (RetV (.bool true) w) := by
  go_enter Tryd.func6, Tryd.ntmps6
  go_wp2_with fail
  refine (awake_any w he).mono ?_
  rintro e w1 ⟨rfl, b1⟩
  go_wp2_with fail
  all_goals generalize (wrap64 (c.tmod 17 + 17)).tmod 17 = q at *
  · generalize s.extract 0 20 = s' at *
    by_cases hq : q = 0
    · subst hq
      refine (at_ok n _ _).mono ?_
      rintro e w2 ⟨rfl, rfl⟩
      go_wp2_with fail
      refine (of_ok _).mono ?_
      rintro e w2 ⟨rfl, rfl⟩
      go_wp2_with fail
      refine (code_nil _).mono ?_
      rintro e w2 ⟨rfl, rfl⟩
      go_wp2_with fail
      refine (text_nil _).mono ?_
      rintro e w2 ⟨rfl, rfl⟩
      go_wp2_with fail
      refine (wrap_nil _ _).mono ?_
      rintro e w2 ⟨rfl, rfl⟩
      go_wp2
      go_ret
      exact ⟨rfl, b1⟩
    · have hq1 : (q == 0) = false := by simp [hq]
      clear hq
      refine (at_any q n _ _ hq1).mono ?_
      rintro e w2 ⟨rfl, hw2⟩
      have hA : Blk w2 w1.heap.size 38 #[.int .i64 q, .int .i64 n, .string s', .nilIface] := by rw [← hw2]; exact Blk.new w1 38 _
      have bA := below_step b1 (below_new w1 (.cells #[.int .i64 q, .int .i64 n, .string s', .nilIface] 38))
      rw [hw2] at bA
      clear hw2
      go_wp2_with fail
      refine (of_any q _ hq1).mono ?_
      rintro e w3 ⟨rfl, hw3⟩
      have hB : Blk w3 w2.heap.size 38 #[.int .i64 q, .int .i64 0, .string ⟨#[]⟩, .nilIface] := by rw [← hw3]; exact Blk.new w2 38 _
      have b23 := below_new w2 (.cells #[.int .i64 q, .int .i64 0, .string ⟨#[]⟩, .nilIface] 38)
      rw [hw3] at b23
      have hA := hA.on b23
      have bB := below_step bA b23
      clear hw3 b23 bA
      have hT := Blk.new w3 36 #[.pointer none]
      have b34 := below_new w3 (.cells #[.pointer none] 36)
      have hA4 := hA.on b34
      have hB4 := hB.on b34
      have b4 := below_step bB b34
      go_wp2_with fail
      refine (as_fault w1.heap.size w3.heap.size (.pointer none) _ (he.kept b4).1 hT hA4.lt).mono ?_
      rintro e w5 ⟨rfl, hT5, hb5⟩
      have b35 := (below_new w3 (.cells #[.pointer none] 36)).trans (hb5 _ (Nat.le_refl _))
      have b5 := below_step bB b35
      have hA5 := hA.on b35
      have hB5 := hB.on b35
      have ct : w5.cell? ⟨w3.heap.size, 0, none⟩ = some (.pointer (some ⟨w1.heap.size, 0, none⟩)) := hT5.cell 0
      have c0 : w5.cell? ⟨w1.heap.size, 0, none⟩ = some (.int .i64 q) := hA5.cell 0
      have c1 : w5.cell? ⟨w1.heap.size, 1, none⟩ = some (.int .i64 n) := hA5.cell 1
      have c2 : w5.cell? ⟨w1.heap.size, 2, none⟩ = some (.string s') := hA5.cell 2
      have c3 : w5.cell? ⟨w1.heap.size, 3, none⟩ = some .nilIface := hA5.cell 3
      have hC : Chn w5 (.iface 36 (.pointer (some ⟨w2.heap.size, 0, none⟩))) [{ code := q, line := 0, note := ⟨#[]⟩ }] := ⟨_, _, rfl, hB5, rfl⟩
      clear hb5 b35 hT hA4 hB4 hA hB bB b34 b4
      go_wp2_with fail
      refine (code_any _ _ _ (he.kept b5).1 hC).mono ?_
      rintro e w6 ⟨rfl, b6⟩
      rw [show codeOf [{ code := q, line := 0, note := ⟨#[]⟩ }] = q from rfl]
      go_wp2_with fail
      refine (line_any _ _ _ (hC.kept b6) (by simp)).mono ?_
      rintro e w7 ⟨rfl, b7⟩
      rw [show lineOf [{ code := q, line := 0, note := ⟨#[]⟩ }] = 0 from rfl]
      have b67 := below_step b6 b7
      go_wp2_with fail
      refine (notes_any _ _ _ (hC.kept b67) (by simp)).mono ?_
      rintro e w8 ⟨u, rfl, hr, b8⟩
      obtain ⟨ao, cap, rfl⟩ := own_form hr
      rw [show (notesOf [{ code := q, line := 0, note := ⟨#[]⟩ }]).length = 0 from rfl]
      go_wp2
      go_ret
      exact ⟨rfl, below_step b5 (below_step b67 b8)⟩
  · skip
    by_cases hq : q = 0
    · subst hq
      refine (at_ok n _ _).mono ?_
      rintro e w2 ⟨rfl, rfl⟩
      go_wp2_with fail
      refine (of_ok _).mono ?_
      rintro e w2 ⟨rfl, rfl⟩
      go_wp2_with fail
      refine (code_nil _).mono ?_
      rintro e w2 ⟨rfl, rfl⟩
      go_wp2_with fail
      refine (text_nil _).mono ?_
      rintro e w2 ⟨rfl, rfl⟩
      go_wp2_with fail
      refine (wrap_nil _ _).mono ?_
      rintro e w2 ⟨rfl, rfl⟩
      go_wp2
      go_ret
      exact ⟨rfl, b1⟩
    · have hq1 : (q == 0) = false := by simp [hq]
      clear hq
      refine (at_any q n _ _ hq1).mono ?_
      rintro e w2 ⟨rfl, hw2⟩
      have hA : Blk w2 w1.heap.size 38 #[.int .i64 q, .int .i64 n, .string s, .nilIface] := by rw [← hw2]; exact Blk.new w1 38 _
      have bA := below_step b1 (below_new w1 (.cells #[.int .i64 q, .int .i64 n, .string s, .nilIface] 38))
      rw [hw2] at bA
      clear hw2
      go_wp2_with fail
      refine (of_any q _ hq1).mono ?_
      rintro e w3 ⟨rfl, hw3⟩
      have hB : Blk w3 w2.heap.size 38 #[.int .i64 q, .int .i64 0, .string ⟨#[]⟩, .nilIface] := by rw [← hw3]; exact Blk.new w2 38 _
      have b23 := below_new w2 (.cells #[.int .i64 q, .int .i64 0, .string ⟨#[]⟩, .nilIface] 38)
      rw [hw3] at b23
      have hA := hA.on b23
      have bB := below_step bA b23
      clear hw3 b23 bA
      have hT := Blk.new w3 36 #[.pointer none]
      have b34 := below_new w3 (.cells #[.pointer none] 36)
      have hA4 := hA.on b34
      have hB4 := hB.on b34
      have b4 := below_step bB b34
      go_wp2_with fail
      refine (as_fault w1.heap.size w3.heap.size (.pointer none) _ (he.kept b4).1 hT hA4.lt).mono ?_
      rintro e w5 ⟨rfl, hT5, hb5⟩
      have b35 := (below_new w3 (.cells #[.pointer none] 36)).trans (hb5 _ (Nat.le_refl _))
      have b5 := below_step bB b35
      have hA5 := hA.on b35
      have hB5 := hB.on b35
      have ct : w5.cell? ⟨w3.heap.size, 0, none⟩ = some (.pointer (some ⟨w1.heap.size, 0, none⟩)) := hT5.cell 0
      have c0 : w5.cell? ⟨w1.heap.size, 0, none⟩ = some (.int .i64 q) := hA5.cell 0
      have c1 : w5.cell? ⟨w1.heap.size, 1, none⟩ = some (.int .i64 n) := hA5.cell 1
      have c2 : w5.cell? ⟨w1.heap.size, 2, none⟩ = some (.string s) := hA5.cell 2
      have c3 : w5.cell? ⟨w1.heap.size, 3, none⟩ = some .nilIface := hA5.cell 3
      have hC : Chn w5 (.iface 36 (.pointer (some ⟨w2.heap.size, 0, none⟩))) [{ code := q, line := 0, note := ⟨#[]⟩ }] := ⟨_, _, rfl, hB5, rfl⟩
      clear hb5 b35 hT hA4 hB4 hA hB bB b34 b4
      go_wp2_with fail
      refine (code_any _ _ _ (he.kept b5).1 hC).mono ?_
      rintro e w6 ⟨rfl, b6⟩
      rw [show codeOf [{ code := q, line := 0, note := ⟨#[]⟩ }] = q from rfl]
      go_wp2_with fail
      refine (line_any _ _ _ (hC.kept b6) (by simp)).mono ?_
      rintro e w7 ⟨rfl, b7⟩
      rw [show lineOf [{ code := q, line := 0, note := ⟨#[]⟩ }] = 0 from rfl]
      have b67 := below_step b6 b7
      go_wp2_with fail
      refine (notes_any _ _ _ (hC.kept b67) (by simp)).mono ?_
      rintro e w8 ⟨u, rfl, hr, b8⟩
      obtain ⟨ao, cap, rfl⟩ := own_form hr
      rw [show (notesOf [{ code := q, line := 0, note := ⟨#[]⟩ }]).length = 0 from rfl]
      go_wp2
      go_ret
      exact ⟨rfl, below_step b5 (below_step b67 b8)⟩
end Go.Proofs.YtpokpkocinhbfabDoor
