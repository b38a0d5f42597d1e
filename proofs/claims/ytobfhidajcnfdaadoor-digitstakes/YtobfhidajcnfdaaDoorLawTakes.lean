/-
  The walk of the law on what bytes begin with.
-/
import Derived.Test.YtobfhidajcnfdaaDoorTakeE
import Derived.Test.YtobfhidajcnfdaaDoorIs
import Derived.Deep.RegionHeld3
import Derived.Deep.RegionHeld
import Derived.Deep.DeepCutAuto
import Derived.Deep.CutRange
namespace Go.Proofs.YtobfhidajcnfdaaDoor
set_option linter.unusedVariables false
set_option maxRecDepth 20000
open Go.RowKit

theorem keep1b {W w' : World} {g1 : Nat} {a : Value} (h1 : Blk W g1 26 #[a]) (hb : Below W.heap.size W w') : w'.cell? ⟨g1, 0, none⟩ = some a := (h1.on hb).cell0

/-- 'string(b)' of a row of one's own that is not empty, whatever it is. -/
theorem own_put {w : World} {B : Nat} {u : Value} {bs : List UInt8} (h : w.ownsRow B 5 1 u bs.length (Lib.byteCells bs)) (hne : 0 < bs.length) :
    ∃ g cap, u = .slice (some ⟨g, 0, none⟩) bs.length cap ∧ (convert 42 9 (.slice (some ⟨g, 0, none⟩) bs.length cap)).run Tryd.prog w = .ok (.string ⟨bs.toArray⟩) w := by
  obtain ⟨k, hk⟩ : ∃ k, bs.length = k + 1 := ⟨bs.length - 1, by omega⟩
  obtain ⟨g, cap, e⟩ := ownsRow_succ (k := k) (hk ▸ h)
  rw [← hk] at e
  subst e
  exact ⟨g, cap, rfl, conv_own h⟩

set_option maxHeartbeats 4000000 in
theorem digitsTakes_walk (s : ByteArray) (w : World) (he : Env w) : Calls Tryd.prog 6 #[.string s] w (RetV (.bool true) w) := by
  go_enter Tryd.func6, Tryd.ntmps6
  go_wp2_with fail
  refine (awake03_any _ he).mono ?_
  rintro e w1 ⟨rfl, b1⟩
  go_upto_if 13 with fail
  go_cut [0] (fun s0 wx => ∃ s' : ByteArray, s0 = .string s' ∧ s'.size ≤ 300 ∧ wx = w1)
  case first =>
    by_cases hs : 300 < s.size
    · go_wp2
      go_meet
      exact ⟨_, rfl, by rw [ByteArray.size_extract]; omega, rfl⟩
    · go_wp2
      go_meet
      exact ⟨_, rfl, by omega, rfl⟩
  case rest =>
    obtain ⟨s', rfl, hs, rfl⟩ := hcut
    clear s
    have hway : (∃ er : Int, (er = 2 ∨ er = 3) ∧ (∀ W, Calls Tryd.prog 23 #[.string s'] W (RetTk 0 0 ⟨#[]⟩ er W)) ∧ ∀ W, Calls Tryd.prog 24 #[.string s'] W (RetV (.tuple #[.string ⟨#[]⟩, .string ⟨#[]⟩, .int .i64 er]) W)) ∨
        (∃ (t V : Nat) (rs bs : ByteArray), t ≤ 300 ∧ Hid (putBytes V ++ rs.data.toList = s'.data.toList) ∧ bs.size = t ∧ Hid (beVal bs.data.toList = V) ∧ (∀ W, Calls Tryd.prog 23 #[.string s'] W (RetTk ((t + 3) / 4) V rs 0 W)) ∧ ∀ W, Calls Tryd.prog 24 #[.string s'] W (RetV (.tuple #[.string bs, .string rs, .int .i64 0]) W)) := by
      have hs6 : s'.size ≤ 1000000 := by omega
      by_cases h4 : s'.size < 4
      · exact .inl ⟨2, .inl rfl, fun W => take_short s' W 0 h4, fun W => refTake_short s' W h4⟩
      by_cases ht : s'.size - 4 < told s'
      · exact .inl ⟨2, .inl rfl, fun W => take_end s' W 0 hs6 h4 ht, fun W => refTake_end s' W hs6 h4 ht⟩
      by_cases hz : ∀ h5 : 4 < s'.size, 0 < told s' → s'[4] ≠ 0
      · obtain ⟨t, htt⟩ : ∃ t, told s' = t := ⟨_, rfl⟩
        rw [htt] at ht hz
        have e1 : (s'.extract 4 s'.size).extract 0 t = s'.extract 4 (4 + t) := by
          rw [ByteArray.extract_extract, Nat.add_zero, Nat.min_eq_left (by omega)]
        have e2 : (s'.extract 4 s'.size).extract t (s'.size - 4) = s'.extract (4 + t) s'.size := by
          rw [ByteArray.extract_extract, Nat.min_eq_left (by omega)]
          congr 1
          omega
        exact .inr ⟨t, _, s'.extract (4 + t) s'.size, s'.extract 4 (4 + t), by omega, put_again s' t (by omega) htt (by omega) hz, by rw [ByteArray.size_extract]; omega, rfl,
          fun W => take_ok s' W t _ _ hs6 h4 htt ht hz (by rw [e1]; rfl) e2, fun W => refTake_ok s' W t hs6 h4 htt ht hz⟩
      · have h5 : ∃ h5 : 4 < s'.size, 0 < told s' ∧ s'[4] = 0 := by
          refine Classical.byContradiction fun hn => hz fun h5 h0 h6 => hn ⟨h5, h0, h6⟩
        obtain ⟨h5, hp, h6⟩ := h5
        exact .inl ⟨3, .inr rfl, fun W => take_form s' W 0 hs6 h4 ht hp h5 h6, fun W => refTake_form s' W hs6 h4 _ rfl ht hp h5 h6⟩
    rcases hway with ⟨er, her, T, R⟩ | ⟨t, V, rs, bs, ht, hput, hbs, hV, T, R⟩
    · have hz : (er == 0) = false := by rcases her with rfl | rfl <;> rfl
      go_wp2_with fail
      refine (T _).mono ?_
      rintro e w2 ⟨v, rfl, hN, y2⟩
      obtain ⟨A, n, c, rfl⟩ := hN.shape
      have hX := Blk.new w2 26 #[.slice A n c]
      have hN := hN.alloc (.cells #[.slice A n c] 26)
      have b2 := bel_new (below_step b1 y2) (.cells #[.slice A n c] 26)
      go_wp2_with fail
      refine (R _).mono ?_
      rintro e w3 ⟨rfl, y3⟩
      have hcx := (hX.on y3).cell0
      have hN3 := hN.below y3
      go_wp2_with fail
      refine (zero_any _ 0 0 true _ hN3 rfl).mono ?_
      rintro e w4 ⟨rfl, y4⟩
      go_wp2
      go_ret
      exact ⟨rfl, below_step (below_step b2 y3) y4⟩
    · go_wp2_with fail
      refine (T _).mono ?_
      rintro e w2 ⟨v, rfl, hN, y2⟩
      obtain ⟨A, n, c, rfl⟩ := hN.shape
      have hX := Blk.new w2 26 #[.slice A n c]
      have hN := hN.alloc (.cells #[.slice A n c] 26)
      have b2 := bel_new (below_step b1 y2) (.cells #[.slice A n c] 26)
      go_wp2_with fail
      refine (R _).mono ?_
      rintro e W ⟨rfl, y3⟩
      have hX := hX.on y3
      have hN := hN.below y3
      have bW := below_step b2 y3
      clear y2 y3 b2 T R b1
      have NUM := Lib.hid fun X => num_any bs X (by omega)
      rw [hV.out] at NUM
      have hpl : 0 < (putBytes V).length := by rw [putBytes_length]; omega
      have heq : (⟨(putBytes V).toArray⟩ : ByteArray) ++ rs = s' := by
        apply ByteArray.ext
        apply Array.toList_inj.1
        rw [ByteArray.data_append, Array.toList_append]
        exact hput.out
      have hk2 : (t + 3) / 4 ≤ 80000 := by omega
      have hk3 : 10 * bs.size ≤ 1000000 := by omega
      clear hput hV
      go_wp2_with fail
      obtain ⟨pb, hpb⟩ : ∃ pb, Hid (putBytes V = pb) := ⟨_, rfl⟩
      rw [hpb.out] at hpl heq
      have hsum : pb.length + rs.size ≤ 300 := by
        have := congrArg ByteArray.size heq
        rw [ByteArray.size_append] at this
        have e : (⟨pb.toArray⟩ : ByteArray).size = pb.length := by simp [ByteArray.size]
        omega
      have hsum' : ¬ (9223372036854775807 < pb.length + rs.size) := by omega
      have tok1 : True := trivial
      have tok2 : True := trivial
      have tok3 : True := trivial
      go_region_held (fun w' => w'.cell? ⟨w2.heap.size, 0, none⟩ = some (.slice A n c))
        (first | exact keep1b hX (below_drew _) | exact keep1b hX hw1 | exact keep1b hX hw2 | exact keep1b hX hw3)
        (first
          | (go_at_call 25; have _t := tok1; clear tok1; refine (NUM.out _).mono ?_; rintro e x1 ⟨v1, rfl, hD1, y1⟩; obtain ⟨A1, n1, c1, rfl⟩ := hD1.shape; have hw1 : Below W.heap.size W x1 := below_step (below_drew _) y1)
          | (go_at_call 20; have _t := tok2; clear tok2; refine (is_any _ _ _ _ V V true _ (hN.below hw1) hD1 hk2 hk3 (by simp)).mono ?_; rintro e x2 ⟨rfl, y2⟩; have hw2 : Below W.heap.size W x2 := below_step hw1 y2)
          | (go_at_call 21; have _t := tok3; clear tok3; refine (put_any none 0 0 [] _ _ V _ (Byt.nil _ _) rfl (fun _ => rfl) (by decide) (hN.below hw2) (by omega)).mono ?_; rintro e x3 ⟨u, rfl, hown, y3⟩; rw [List.nil_append, hpb.out] at hown; obtain ⟨g, cap, rfl, hconv⟩ := own_put hown hpl; have hw3 : Below W.heap.size W x3 := below_step hw2 y3))
      go_wp2
      go_ret
      exact ⟨rfl, below_step bW hw3⟩
end Go.Proofs.YtobfhidajcnfdaaDoor
