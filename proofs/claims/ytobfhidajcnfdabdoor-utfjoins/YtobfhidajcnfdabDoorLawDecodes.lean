/-
  The walk of the law on Decode.
-/
import Derived.Test.YtobfhidajcnfdabDoorUK
namespace Go.Proofs.YtobfhidajcnfdabDoor
set_option linter.unusedVariables false
set_option maxRecDepth 20000
open Go.RowKit Go.Lib

theorem str_back {s : ByteArray} {l : List UInt8} (h : s.data.toList = l) : (⟨l.toArray⟩ : ByteArray) = s := by
  apply ByteArray.ext
  apply Array.toList_inj.1
  simp [h]

set_option maxHeartbeats 4000000 in
theorem utfDecodes_walk (s0 : ByteArray) (w : World) (he : Env w) : Calls Tryd.prog 3 #[.string s0] w (RetV (.bool true) w) := by
  go_enter Tryd.func3, Tryd.ntmps3
  go_wp2_with fail
  refine (awake_any _ he).mono ?_
  rintro e w1 ⟨rfl, b1⟩
  go_wp2_with fail
  refine (cut_any s0 200 _).mono ?_
  rintro e w2 ⟨s, rfl, hs, b2⟩
  have b2 := below_step b1 b2
  have he2 := he.kept b2
  obtain ⟨cs, rest, hsp⟩ := splits_total _ s.data.toList rfl
  have H1 := Lib.hid fun W => refDecode_any s W (by omega) cs rest hsp
  have hlen : s.data.toList.length = s.size := Array.length_toList
  have hcl : cs.length ≤ 200 := by
    have h1 := (encs_length_le cs).1
    have h2 := congrArg List.length hsp.2.1
    rw [hlen, List.length_append] at h2
    omega
  by_cases hr : rest = []
  · subst hr
    have H2 := Lib.hid fun W hW => valid_any s W hW (by omega) cs [] hsp _ true (.inl ⟨rfl, rfl, rfl⟩)
    have H3 := Lib.hid fun W hW => decode_ok s W hW (by omega) cs hsp
    have hall := hsp.1
    have hback : (⟨(encs cs).toArray⟩ : ByteArray) = s := str_back (by simpa using hsp.2.1)
    clear hsp
    go_wp2_with fail
    refine (H1.out _).mono ?_
    rintro e w3 ⟨y3, ⟨_, u3, rfl, hown3⟩ | ⟨h5, _⟩⟩
    · obtain ⟨A, c, rfl, hA, hAc⟩ := own_isL hown3
      have b3 := below_step b2 y3
      go_wp2_with fail
      refine (H2.out _ (he.kept b3)).mono ?_
      rintro e w4 ⟨rfl, y4⟩
      have b4 := below_step b3 y4
      have hA := hA.below y4
      go_wp2_with fail
      refine (H3.out _ (he.kept b4)).mono ?_
      rintro e w5 ⟨u5, rfl, hown5, y5⟩
      have b5 := below_step b4 y5
      have hA := (hA.below y5).row
      obtain ⟨A5, c5, rfl, hA5, hAc5⟩ := own_isL hown5
      have hA5 := hA5.row
      clear H1 H2 H3 b1 b2 b3 b4 y3 y4 y5 hown3 hown5 he2
      obtain ⟨n, hn⟩ : ∃ n, cs.length = n := ⟨_, rfl⟩
      rw [hn] at hcl hAc hAc5 ⊢
      replace hall := Lib.hid hall
      go_wp2_with fail
      go_loopg [71] n (fun m i71 wx => wx = w5 ∧ ∃ i : Nat, i + m = n ∧ i71 = .int .i64 i)
      case atStart => exact ⟨rfl, 0, by omega, rfl⟩
      case round =>
        obtain ⟨rfl, i, hi, rfl⟩ := hrel
        by_cases hlt : i < n
        · obtain ⟨ad, rfl, _, hc1⟩ := hA.at_ (i := i) (by omega)
          obtain ⟨ad5, rfl, _, hc2⟩ := hA5.at_ (i := i) (by omega)
          have hxl : cs.getD i 0 ≤ 1114111 := (hall.out _ (by
            have : i < cs.length := by omega
            simp only [List.getD, List.getElem?_eq_getElem this, Option.getD_some]
            exact List.getElem_mem _)).le
          generalize cs.getD i 0 = x at *
          go_wp2
          go_roundg (n - (i + 1))
          case measure => omega
          case rel => exact ⟨rfl, i + 1, by omega, by go_num⟩
        · obtain rfl : i = n := by omega
          have HE := Lib.hid (encode_any A5 i c5 (cs.map fun x : Nat => (x : Int)) _ (he.kept b5) hA5.toI (by rw [List.length_map, hn]) (by omega) s 0 (.inl ⟨fun x hx => by
            obtain ⟨y, hy, rfl⟩ := List.mem_map.1 hx
            exact (isI_iff _).2 ⟨by omega, by simpa using hall.out y hy⟩, by rw [chs_nat, hback], rfl⟩))
          clear hall hback
          go_wp2_with fail
          refine HE.out.mono ?_
          rintro e w6 ⟨rfl, y6⟩
          go_wp2
          go_ret
          exact ⟨by simp, below_step b5 y6⟩
    · exact absurd rfl h5
  · have H2 := Lib.hid fun W hW => valid_any s W hW (by omega) cs rest hsp _ false (.inr ⟨hr, rfl, rfl⟩)
    have H3 := Lib.hid fun W hW => decode_bad s W hW (by omega) cs rest hsp hr
    clear hsp hcl hlen
    go_wp2_with fail
    refine (H1.out _).mono ?_
    rintro e w3 ⟨y3, ⟨h5, _⟩ | ⟨_, rfl⟩⟩
    · exact absurd h5 hr
    · generalize (encs cs).length = q at *
      have b3 := below_step b2 y3
      go_wp2_with fail
      refine (H2.out _ (he.kept b3)).mono ?_
      rintro e w4 ⟨rfl, y4⟩
      have b4 := below_step b3 y4
      go_wp2_with fail
      refine (H3.out _ (he.kept b4)).mono ?_
      rintro e w5 ⟨rfl, y5⟩
      go_wp2
      go_ret
      exact ⟨by simp, below_step b4 y5⟩
end Go.Proofs.YtobfhidajcnfdabDoor
