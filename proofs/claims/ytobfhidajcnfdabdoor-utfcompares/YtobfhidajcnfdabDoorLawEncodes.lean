/-
  The walk of the law on Encode.
-/
import Derived.Test.YtobfhidajcnfdabDoorUL
namespace Go.Proofs.YtobfhidajcnfdabDoor
set_option linter.unusedVariables false
set_option maxRecDepth 20000
open Go.RowKit Go.Lib

theorem RowI.nat {k : IntKind} {w : World} {A : Option Addr} {cs : List Nat} (h : RowI k w A (cs.map fun x : Nat => (x : Int))) : Row k w A cs := fun hn => by
  obtain ⟨ad, e, hb, hc⟩ := h (by simpa using hn)
  refine ⟨ad, e, hb, fun i hi => ?_⟩
  rw [hc i (by simpa using hi)]
  simp [List.getD, hi]
theorem RowI.take {k : IntKind} {w : World} {A : Option Addr} {l : List Int} (h : RowI k w A l) (n : Nat) : RowI k w A (l.take n) := fun hn => by
  obtain ⟨ad, e, hb, hc⟩ := h (by intro e; simp [e] at hn)
  refine ⟨ad, e, hb, fun i hi => ?_⟩
  rw [List.length_take] at hi
  rw [hc i (by omega)]
  simp [List.getD, show i < n by omega]
theorem getI_mem {l : List Int} {i : Nat} (h : i < l.length) : l.getD i 0 ∈ l := by
  simp only [List.getD, List.getElem?_eq_getElem h, Option.getD_some]
  exact List.getElem_mem _
theorem all_take {l : List Int} {i : Nat} (h : i < l.length) : (l.take (i + 1)).all isI = ((l.take i).all isI && isI (l.getD i 0)) := by
  have : l.take (i + 1) = l.take i ++ [l.getD i 0] := by
    rw [List.take_add_one]
    simp [List.getD, h]
  rw [this]
  simp
theorem chars_of {l : List Int} (h : l.all isI = true) : ∃ cs : List Nat, l = cs.map (fun x : Nat => (x : Int)) ∧ ∀ x ∈ cs, isC x := by
  induction l with
  | nil => exact ⟨[], rfl, by simp⟩
  | cons x r ih =>
    simp only [List.all_cons, Bool.and_eq_true] at h
    obtain ⟨cs, rfl, hc⟩ := ih h.2
    have hx := (isI_iff x).1 h.1
    refine ⟨x.toNat :: cs, by simp; omega, fun y hy => ?_⟩
    rcases List.mem_cons.1 hy with rfl | hy
    · exact hx.2
    · exact hc y hy

theorem rowI_of_ints {k : IntKind} {w : World} {a : Option Addr} {len cap : Nat} {zs : List Int}
    (h : (a = none ∧ len = 0 ∧ cap = 0 ∧ zs = []) ∨
      ∃ x, a = some x ∧ len ≤ cap ∧ cap ≤ maxLen ∧ zs.length = cap ∧ (∀ i, i < zs.length → w.cell? (x.add i) = some (.int k (zs.getD i 0))) ∧ ∀ n ∈ zs, (Lit.int k n).wf = true) :
    ∃ l : List Int, RowI k w a l ∧ l.length = len ∧ len ≤ cap ∧ ∀ n ∈ l, (Lit.int k n).wf = true := by
  rcases h with ⟨rfl, rfl, rfl, rfl⟩ | ⟨x, rfl, hlc, _, hz, hc, hw⟩
  · exact ⟨[], fun h => absurd rfl h, rfl, Nat.le_refl _, by simp⟩
  · have hlen : (zs.take len).length = len := by simp; omega
    refine ⟨zs.take len, fun hne => ⟨x, rfl, ?_, fun i hi => ?_⟩, hlen, hlc, fun n hn => hw n (List.mem_of_mem_take hn)⟩
    · have h0 : 0 < zs.length := by have := List.length_pos_iff.2 hne; omega
      have := World.block_lt_of_cell? w _ (hc 0 h0)
      rwa [add_block] at this
    · rw [hlen] at hi
      rw [hc i (by omega)]
      simp [List.getD, hi]

set_option maxHeartbeats 8000000 in
theorem utfEncodes_walk (A : Option Addr) (len cap : Nat) (l0 : List Int) (w : World) (he : Env w) (hr0 : RowI .i32 w A l0) (hl0 : l0.length = len) (hlc : len ≤ cap) (hb0 : ∀ x ∈ l0, -2147483648 ≤ x ∧ x < 2147483648) :
    Calls Tryd.prog 4 #[.slice A len cap] w (RetV (.bool true) w) := by
  go_enter Tryd.func4, Tryd.ntmps4
  go_wp2_with fail
  refine (awake_any _ he).mono ?_
  rintro e w1 ⟨rfl, b1⟩
  go_upto_if 17 with fail
  go_cut [0] (fun s0 wx => ∃ (l : List Int) (n c : Nat), s0 = .slice A n c ∧ l.length = n ∧ n ≤ 60 ∧ RowI .i32 w A l ∧ Hid (∀ x ∈ l, -2147483648 ≤ x ∧ x < 2147483648) ∧ wx = w1)
  case first =>
    by_cases h60 : 60 < len
    · have h61 : (60 : Int) < len := by omega
      have h62 : (60 : Int) ≤ cap := by omega
      go_wp2
      go_meet
      exact ⟨l0.take 60, 60, _, rfl, by rw [List.length_take]; omega, by omega, hr0.take 60, fun x hx => hb0 x (List.mem_of_mem_take hx), rfl⟩
    · have h61 : (len : Int) ≤ 60 := by omega
      go_wp2
      go_meet
      exact ⟨l0, _, _, rfl, hl0, by omega, hr0, hb0, rfl⟩
  case rest =>
    obtain ⟨l, n, c, rfl, hln, hn60, hr, hbd, rfl⟩ := hcut
    clear hr0 hl0 hlc hb0
    go_wp2_with fail
    go_loopg [3, 22] n (fun m g3 i22 wx => ∃ (i : Nat) (g : Bool), i + m = n ∧ i22 = .int .i64 i ∧ g3 = .bool g ∧ Hid (g = (l.take i).all isI) ∧ Below w.heap.size w wx)
    case atStart => exact ⟨0, true, by omega, rfl, rfl, rfl, b1⟩
    case round =>
      obtain ⟨i, g, hi, rfl, rfl, hg, hbw⟩ := hrel
      by_cases hlt : i < n
      · obtain ⟨ad, rfl, _, hc1⟩ := (hr.below hbw).at_ (i := i) (by omega)
        have hxb := hbd.out _ (getI_mem (l := l) (i := i) (by omega))
        have HT := Lib.hid (all_take (l := l) (i := i) (by omega))
        generalize l.getD i 0 = x at *
        obtain ⟨hx1, hx2⟩ := hxb
        have he1 := he.kept hbw
        have HR := Lib.hid fun W => refIs_any x W
        have HI := Lib.hid fun W => is_any x W
        have HW := Lib.hid fun W hW => width_any x W hW
        rcases hxi : isI x with _ | _
        · rw [hxi] at HR HI HT
          rw [show widI x = 0 by simp [widI, hxi]] at HW
          rcases g with _ | _
          all_goals
            go_wp2_with fail
            refine (HR.out _).mono ?_
            rintro e w2 ⟨rfl, y2⟩
            have b2 := below_step hbw y2
            go_wp2_with fail
            refine (HI.out _).mono ?_
            rintro e w3 ⟨rfl, y3⟩
            have b3 := below_step b2 y3
            go_wp2_with fail
            refine (HW.out _ (he.kept b3)).mono ?_
            rintro e w4 ⟨rfl, y4⟩
            have b4 := below_step b3 y4
            go_wp2
            go_roundg (n - (i + 1))
            case measure => omega
            case rel => exact ⟨i + 1, false, by omega, by go_num, rfl, by rw [HT.out]; simp [Hid], b4⟩
        · rw [hxi] at HR HI HT
          have hvc := (isI_iff x).1 hxi
          obtain ⟨d, rfl⟩ : ∃ d : Nat, x = d := ⟨x.toNat, by omega⟩
          have hdc : isC d := by simpa using hvc.2
          rw [show widI (d : Int) = wid d by simp [widI, hxi]] at HW
          have HB := Lib.hid fun W => refBytes_any d hdc W
          have hwp := wid_pos d
          have hel : (⟨(enc d).toArray⟩ : ByteArray).size = wid d := by rw [size_array, enc_length]
          obtain ⟨E, hE⟩ : ∃ E : ByteArray, E = ⟨(enc d).toArray⟩ := ⟨_, rfl⟩
          rw [← hE] at HB hel
          clear hE hvc hdc
          generalize wid d = k at *
          have hk0 : (0 : Int) < k := by omega
          rcases g with _ | _
          all_goals
            go_wp2_with fail
            refine (HR.out _).mono ?_
            rintro e w2 ⟨rfl, y2⟩
            have b2 := below_step hbw y2
            go_wp2_with fail
            refine (HI.out _).mono ?_
            rintro e w3 ⟨rfl, y3⟩
            have b3 := below_step b2 y3
            go_wp2_with fail
            refine (HW.out _ (he.kept b3)).mono ?_
            rintro e w4 ⟨rfl, y4⟩
            have b4 := below_step b3 y4
            go_wp2_with fail
            refine (HW.out _ (he.kept b4)).mono ?_
            rintro e w5 ⟨rfl, y5⟩
            have b5 := below_step b4 y5
            go_wp2_with fail
            refine (HB.out _).mono ?_
            rintro e w6 ⟨rfl, y6⟩
            have b6 := below_step b5 y6
            go_wp2
            go_roundg (n - (i + 1))
            case measure => omega
            case rel => exact ⟨i + 1, _, by omega, by go_num, rfl, by rw [HT.out, ← hg.out]; rfl, b6⟩
      · obtain rfl : i = n := by omega
        rw [List.take_of_length_le (by omega)] at hg
        have he1 := he.kept hbw
        rcases g with _ | _
        · have HE := Lib.hid (encode_any A i c l _ he1 (hr.below hbw) hln (by omega) ⟨#[]⟩ 1 (.inr ⟨by
            have h5 := hg.out
            rw [eq_comm, List.all_eq_false] at h5
            obtain ⟨x, h6, h7⟩ := h5
            exact ⟨x, h6, by simpa using h7⟩, rfl, rfl⟩))
          go_wp2_with fail
          refine HE.out.mono ?_
          rintro e w2 ⟨rfl, y2⟩
          go_wp2
          go_ret
          exact ⟨rfl, below_step hbw y2⟩
        · obtain ⟨cs, rfl, hall⟩ := chars_of hg.out.symm
          have hcl : cs.length = i := by simpa using hln
          obtain ⟨S, hS⟩ : ∃ S : ByteArray, Hid (S = ⟨(encs cs).toArray⟩) := ⟨_, rfl⟩
          have hSs : S.size ≤ 240 := by
            rw [hS.out, size_array]
            have := (encs_length_le cs).2
            omega
          have HE := Lib.hid (encode_any A i c _ _ he1 (hr.below hbw) hln (by omega) S 0 (.inl ⟨fun x hx => by
            have h5 := hg.out.symm
            rw [List.all_eq_true] at h5
            exact h5 x hx, by rw [chs_nat]; exact hS.out, rfl⟩))
          have HD := Lib.hid fun W hW => decode_ok2 S W hW (by omega) cs (by rw [hS.out]; simpa using splits_encs hall)
          have hrow : Row .i32 w A cs := hr.nat
          clear hg hbd hr
          replace hall := Lib.hid hall
          go_wp2_with fail
          refine HE.out.mono ?_
          rintro e w2 ⟨rfl, y2⟩
          have b2 := below_step hbw y2
          go_wp2_with fail
          refine (HD.out _ (he.kept b2)).mono ?_
          rintro e w3 ⟨gz, cz, rfl, hoz, y3⟩
          have b3 := below_step b2 y3
          obtain ⟨Az, cz', ez, hAz, _⟩ := own_isL hoz
          simp only [Value.slice.injEq, true_and] at ez
          obtain ⟨rfl, rfl⟩ := ez
          rw [hcl]
          go_wp2_with fail
          refine (told_any A c i cs _ (hrow.below b3) hcl (by omega) hall.out).mono ?_
          rintro e w4 ⟨u4, rfl, ho4, y4⟩
          have b4 := below_step b3 y4
          have hAz := hAz.below y4
          obtain ⟨A4, c4, rfl, hA4, _⟩ := own_isL ho4
          rw [hcl]
          go_wp2_with fail
          refine (refEncode_any A4 c4 i cs _ hA4.row hcl (by omega) hall.out).mono ?_
          rintro e w5 ⟨rfl, y5⟩
          rw [← hS.out]
          have b5 := below_step b4 y5
          have hrz := (hAz.below y5).row
          have hrow5 := hrow.below b5
          clear HE HD b2 b3 b4 y2 y3 y4 y5 hoz ho4 hAz hA4 hrow
          go_wp2_with fail
          go_loopg [97] i (fun m i97 wx => wx = w5 ∧ ∃ j : Nat, j + m = i ∧ i97 = .int .i64 j)
          case atStart => exact ⟨rfl, 0, by omega, rfl⟩
          case round =>
            obtain ⟨rfl, j, hj, rfl⟩ := hrel
            by_cases hlt2 : j < i
            · obtain ⟨ad, rfl, _, hc1⟩ := hrow5.at_ (i := j) (by omega)
              obtain ⟨ad5, e5, _, hc2⟩ := hrz.at_ (i := j) (by omega)
              cases e5
              rw [add_zero_block] at hc2
              generalize cs.getD j 0 = x at *
              go_wp2
              go_roundg (i - (j + 1))
              case measure => omega
              case rel => exact ⟨rfl, j + 1, by omega, by go_num⟩
            · obtain rfl : j = i := by omega
              go_wp2
              go_ret
              exact ⟨rfl, b5⟩
end Go.Proofs.YtobfhidajcnfdabDoor
