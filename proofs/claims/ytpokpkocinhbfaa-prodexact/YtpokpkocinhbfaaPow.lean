/-
  The contract of Pow.
-/
import Derived.Test.YtpokpkocinhbfaaDivE
namespace Go.Proofs.Ytpokpkocinhbfaa
set_option linter.unusedVariables false
set_option maxRecDepth 20000
open Go.RowKit

/-- A number takes no more limbs than its size asks. -/
theorem IsN.fit {w : World} {v : Value} {k N j : Nat} (h : IsN w v k N) (hN : N < 4294967296 ^ j) : IsN w v j N := by
  obtain ⟨A, c, l, e, h1, h2, h3, h4, h5⟩ := h
  refine ⟨A, c, l, e, h1, h2, h3, ?_, h5⟩
  rcases Nat.lt_or_ge j l.length with hj | hj
  · exfalso
    have hne : l ≠ [] := by intro e; simp [e] at hj
    have hl : l = l.dropLast ++ [l.getLast hne] := (List.dropLast_concat_getLast hne).symm
    have hv : val 4294967296 l = val 4294967296 l.dropLast + 4294967296 ^ (l.length - 1) * l.getLast hne := by
      conv => lhs; rw [hl, val_append]
      rw [List.length_dropLast]; simp [val]
    have hlast : 1 ≤ l.getLast hne := Nat.pos_of_ne_zero (h2.2 hne)
    have hp : 4294967296 ^ j ≤ 4294967296 ^ (l.length - 1) := Nat.pow_le_pow_right (by decide) (by omega)
    have hq : 4294967296 ^ (l.length - 1) * 1 ≤ 4294967296 ^ (l.length - 1) * l.getLast hne := Nat.mul_le_mul_left _ hlast
    rw [Nat.mul_one] at hq
    have hle : 4294967296 ^ (l.length - 1) * l.getLast hne ≤ N := by rw [← h3, hv]; exact Nat.le_add_left _ _
    exact absurd (Nat.lt_of_le_of_lt (Nat.le_trans hp (Nat.le_trans hq hle)) hN) (Nat.lt_irrefl _)
  · exact hj

/-- A power that is let by fits K limbs. -/
theorem pow_fits {N n e L K : Nat} (h : bl N * n ≤ L) (hK : L < 32 * K) (he : e ≤ n) : N ^ e < 4294967296 ^ K := by
  have h1 : N < 2 ^ bl N := (bl_spec N (bl N)).1 (Nat.le_refl _)
  have h2 : N ^ e ≤ (2 ^ bl N) ^ e := Nat.pow_le_pow_left (Nat.le_of_lt h1) e
  rw [← Nat.pow_mul] at h2
  have h3 : bl N * e ≤ L := Nat.le_trans (Nat.mul_le_mul_left _ he) h
  have h4 : 2 ^ (bl N * e) < 2 ^ (32 * K) := Nat.pow_lt_pow_right (by decide) (Nat.lt_of_le_of_lt h3 hK)
  have h5 : (4294967296 : Nat) ^ K = 2 ^ (32 * K) := by rw [show (4294967296 : Nat) = 2 ^ 32 from rfl, ← Nat.pow_mul]
  rw [h5]
  exact Nat.lt_of_le_of_lt h2 h4

/-- The lowest bit. -/
theorem low_bit (i : Nat) (hi : i < 9223372036854775808) : bits BinOp.and IntKind.i64 (i : Int) 1 = ((i % 2 : Nat) : Int) := by
  have t63 : (2 : Int) ^ 63 = 9223372036854775808 := by decide
  have h := bits_mask .i64 63 (by decide) (fun n h0 h1 => by rw [t63] at h1; rw [IntKind.wrap_i64]; omega) 1 (by decide) (i : Int) (by omega) (by rw [t63]; omega)
  rw [show ((2 : Int) ^ 1 - 1) = 1 from by decide] at h
  rw [h]
  omega

/-- It answers a number, and no error. -/
def RetNE (k N : Nat) (w : World) (e : Ending) (w' : World) : Prop := ∃ v, e = .returned (.tuple #[v, .int .i64 0]) ∧ IsN w' v k N ∧ Below w.heap.size w w'

set_option maxHeartbeats 2000000 in
/-- 'Pow'. -/
theorem pow_any (v : Value) (k N n K : Nat) (w : World) (h : IsN w v k N) (hk : k ≤ 400000) (hn : n < 9223372036854775808) (hfit : bl N * n ≤ 131072) (hK : 131072 < 32 * K) (hK2 : K ≤ 400000) :
    Calls Try.prog 13 #[v, .int .i64 n] w (RetNE K (N ^ n) w) := by
  have hI := h
  obtain ⟨A, n0, c, rfl⟩ := h.shape
  have hbl := h.bl_le
  have BT := Lib.hid (fun w' (hN : IsN w' (.agg #[.slice A n0 c]) k N) => bits_any _ k N w' hN (by omega))
  have OF := Lib.hid (fun w' => of_any 1 w' (by decide))
  have LN := Lib.hid (fun w' => lenU_any n w' (by omega))
  have hFIT := Lib.hid (fun e (he : e ≤ n) => pow_fits hfit hK he)
  have hguard : (0 < bl N ∧ ¬ (131072 / (bl N : Int) < (n : Int))) ∨ bl N = 0 := by
    rcases Nat.eq_zero_or_pos (bl N) with h0 | h0
    · exact .inr h0
    · refine .inl ⟨h0, ?_⟩
      have h1 : n ≤ 131072 / bl N := (Nat.le_div_iff_mul_le h0).2 (by rw [Nat.mul_comm]; exact hfit)
      have h2 : (131072 : Int) / (bl N : Int) = ((131072 / bl N : Nat) : Int) := by simp
      rw [h2]; omega
  obtain ⟨b, hb⟩ : ∃ b, b = bl N := ⟨_, rfl⟩
  rw [← hb] at BT hguard hbl
  clear h hb hfit
  have hn0 : ¬ ((n : Int) < 0) := by omega
  go_enter Try.func13, Try.ntmps13
  go_wp2_with fail
  have hX : Blk ((w.alloc (Obj.cells #[Value.slice A n0 c] 25)).alloc (Obj.cells #[Value.slice none 0 0] 25)) w.heap.size 25 #[.slice A n0 c] := (Blk.new w 25 _).alloc _
  have hR : Blk ((w.alloc (Obj.cells #[Value.slice A n0 c] 25)).alloc (Obj.cells #[Value.slice none 0 0] 25)) (w.heap.size + 1) 25 #[.slice none 0 0] := by
    have := Blk.new (w.alloc (Obj.cells #[Value.slice A n0 c] 25)) 25 #[.slice none 0 0]
    simpa using this
  have hN := (hI.alloc (Obj.cells #[Value.slice A n0 c] 25)).alloc (Obj.cells #[Value.slice none 0 0] 25)
  have bW : Below w.heap.size w ((w.alloc (Obj.cells #[Value.slice A n0 c] 25)).alloc (Obj.cells #[Value.slice none 0 0] 25)) := below_step (below_new _ _) (below_new _ _)
  generalize hW : (w.alloc (Obj.cells #[Value.slice A n0 c] 25)).alloc (Obj.cells #[Value.slice none 0 0] 25) = W at *
  clear hW hI
  refine (BT.out _ hN).mono ?_
  rintro e x1 ⟨rfl, y1⟩
  have hX1 := hX.on y1
  have hR1 := hR.on y1
  have hN1 := hN.below y1
  have b1 := below_step bW y1
  clear hX hR hN bW y1 BT
  rcases hguard with ⟨hb0, hg⟩ | rfl
  all_goals
    go_wp2_with fail
    refine (OF.out _).mono ?_
    rintro e x2 ⟨v2, rfl, h2, y2⟩
    obtain ⟨A2, n2, c2, rfl⟩ := h2.shape
    have hX2 := (hX1.on y2).alloc (.cells #[.slice A2 n2 c2] 25)
    have hR2 := (hR1.on y2).alloc (.cells #[.slice A2 n2 c2] 25)
    have hN2 := (hN1.below y2).alloc (.cells #[.slice A2 n2 c2] 25)
    have hP2 := h2.alloc (.cells #[.slice A2 n2 c2] 25)
    have hG2 := Blk.new x2 25 #[.slice A2 n2 c2]
    have b2 := below_step (below_step b1 y2) (below_new _ (.cells #[.slice A2 n2 c2] 25))
    have hsz : w.heap.size + 1 < x2.heap.size := (hR1.on y2).lt
    go_wp2_with fail
    refine (LN.out _).mono ?_
    rintro e x3 ⟨rfl, rfl⟩
    have hL := Lib.hid ((bl_spec n (bl n)).1 (Nat.le_refl _))
    have hL64 : bl n ≤ 63 := (bl_spec n 63).2 (by omega)
    obtain ⟨L, hLe⟩ : ∃ L, L = bl n := ⟨_, rfl⟩
    rw [← hLe] at hL hL64
    rw [← hLe]
    clear hLe hN1 hX1 hR1 y2 h2 LN OF b1
    go_wp2
    go_loopw [29] (fun t wr => ∃ (i : Nat) (Ap : Option Addr) (np cp : Nat), t = .int .i64 i ∧ i ≤ L ∧ Blk wr x2.heap.size 25 #[.slice Ap np cp] ∧ IsN wr (.agg #[.slice Ap np cp]) K (N ^ (n / 2 ^ (L - i))) ∧ Blk wr w.heap.size 25 #[.slice A n0 c] ∧ Blk wr (w.heap.size + 1) 25 #[.slice none 0 0] ∧ IsN wr (.agg #[.slice A n0 c]) k N ∧ Below w.heap.size w wr) (fun t _ => L - (intOf t).toNat)
    case atStart =>
      have h0 : n / 2 ^ (L - 0) = 0 := Nat.div_eq_of_lt hL.out
      exact ⟨0, A2, n2, c2, rfl, by omega, hG2, by rw [h0, Nat.pow_zero]; exact hP2.more (by omega), hX2, hR2, hN2, b2⟩
    case round =>
      obtain ⟨i, Ap, np, cp, rfl, hi, hG, hP, hX, hR, hN, hb⟩ := hrel
      clear hG2 hP2 hX2 hR2 hN2 b2
      by_cases hiL : i < L
      · obtain ⟨j, hj⟩ : ∃ j, j + 1 + i = L := ⟨L - 1 - i, by omega⟩
        have hPc := hP
        rw [show L - i = j + 1 by omega] at hPc
        have hc0 := hG.cell0
        -- the next exponent
        obtain ⟨e', he'⟩ : ∃ e', e' = n / 2 ^ j := ⟨_, rfl⟩
        have hee : n / 2 ^ (j + 1) = e' / 2 := by rw [he', Nat.div_div_eq_div_mul, Nat.pow_succ]
        have hen : e' ≤ n := by rw [he']; exact Nat.div_le_self _ _
        have hI : ((n : Int) / 2 ^ (L - 1 - i)) = (e' : Int) := by rw [show L - 1 - i = j by omega, he']; simp
        have hlow := low_bit e' (by omega)
        rw [← hI] at hlow
        have hnext : n / 2 ^ (L - (i + 1)) = e' := by rw [show L - (i + 1) = j by omega, he']
        have HNEXT := Lib.hid hnext
        rw [hee] at hPc
        have hsq : N ^ (e' / 2) * N ^ (e' / 2) = N ^ (2 * (e' / 2)) := by rw [← Nat.pow_add]; congr 1; omega
        have hFS := hFIT.out (2 * (e' / 2)) (by omega)
        have HI := Lib.hid hI
        have HSQ := Lib.hid hsq
        have HFS := Lib.hid hFS
        clear he' hee hI hnext hsq hFS hL
        have M1 := Lib.hid (mul_any _ _ K K _ _ _ hPc hPc hK2 hK2)
        by_cases hodd : e' % 2 = 1
        · have hbit : (bits BinOp.and IntKind.i64 (↑n / 2 ^ (L - 1 - i)) 1 == 1) = true := by rw [hlow, hodd]; rfl
          have HE := Lib.hid (show 2 * (e' / 2) + 1 = e' by omega)
          clear hlow
          go_wp2_with fail
          refine M1.out.mono ?_
          rintro e x4 ⟨v4, rfl, h4, y4⟩
          obtain ⟨A4, n4, c4, rfl⟩ := h4.shape
          have hG4 := hG.on y4
          have hcg := hG4.cell0
          have hfg := hG4.free 0
          have hX4 := (hX.on y4).far (p := ⟨x2.heap.size, 0, none⟩) (by show w.heap.size ≠ x2.heap.size; omega) (.slice A4 n4 c4)
          have hR4 := (hR.on y4).far (p := ⟨x2.heap.size, 0, none⟩) (by show w.heap.size + 1 ≠ x2.heap.size; omega) (.slice A4 n4 c4)
          have hN4 := (hN.below y4).far hG4 0 (.slice A4 n4 c4)
          have hP4 := h4.far hG4 0 (.slice A4 n4 c4)
          have hG5 := hG4.set0 (.slice A4 n4 c4)
          have hb4 := (below_step hb y4).setCell (p := ⟨x2.heap.size, 0, none⟩) (by show w.heap.size ≤ x2.heap.size; omega) (.slice A4 n4 c4)
          rw [HSQ.out] at hP4
          have hP5 := hP4.fit HFS.out
          have hcx := hX4.cell0
          have hcp := hG5.cell0
          go_wp2_with fail
          refine (mul_any _ _ K k _ _ _ hP5 hN4 hK2 hk).mono ?_
          rintro e x5 ⟨v5, rfl, h5, y5⟩
          obtain ⟨A5, n5, c5, rfl⟩ := h5.shape
          have hG6 := hG5.on y5
          have hcg6 := hG6.cell0
          have hfg6 := hG6.free 0
          have hX6 := (hX4.on y5).far (p := ⟨x2.heap.size, 0, none⟩) (by show w.heap.size ≠ x2.heap.size; omega) (.slice A5 n5 c5)
          have hR6 := (hR4.on y5).far (p := ⟨x2.heap.size, 0, none⟩) (by show w.heap.size + 1 ≠ x2.heap.size; omega) (.slice A5 n5 c5)
          have hN6 := (hN4.below y5).far hG6 0 (.slice A5 n5 c5)
          have hP6 := h5.far hG6 0 (.slice A5 n5 c5)
          have hb6 := (below_step hb4 y5).setCell (p := ⟨x2.heap.size, 0, none⟩) (by show w.heap.size ≤ x2.heap.size; omega) (.slice A5 n5 c5)
          rw [← Nat.pow_succ, Nat.succ_eq_add_one, HE.out] at hP6
          have hP7 := hP6.fit (hFIT.out e' hen)
          go_wp2
          go_roundw
          case rel => exact ⟨i + 1, A5, n5, c5, by go_num, by omega, hG6.set0 _, by rw [HNEXT.out]; exact hP7, hX6, hR6, hN6, hb6⟩
          case measure => simp [intOf]; omega
        · have hbit : (bits BinOp.and IntKind.i64 (↑n / 2 ^ (L - 1 - i)) 1 == 1) = false := by rw [hlow, show e' % 2 = 0 by omega]; rfl
          have HE := Lib.hid (show 2 * (e' / 2) = e' by omega)
          clear hlow
          go_wp2_with fail
          refine M1.out.mono ?_
          rintro e x4 ⟨v4, rfl, h4, y4⟩
          obtain ⟨A4, n4, c4, rfl⟩ := h4.shape
          have hG4 := hG.on y4
          have hcg := hG4.cell0
          have hfg := hG4.free 0
          have hX4 := (hX.on y4).far (p := ⟨x2.heap.size, 0, none⟩) (by show w.heap.size ≠ x2.heap.size; omega) (.slice A4 n4 c4)
          have hR4 := (hR.on y4).far (p := ⟨x2.heap.size, 0, none⟩) (by show w.heap.size + 1 ≠ x2.heap.size; omega) (.slice A4 n4 c4)
          have hN4 := (hN.below y4).far hG4 0 (.slice A4 n4 c4)
          have hP4 := h4.far hG4 0 (.slice A4 n4 c4)
          have hG5 := hG4.set0 (.slice A4 n4 c4)
          have hb4 := (below_step hb y4).setCell (p := ⟨x2.heap.size, 0, none⟩) (by show w.heap.size ≤ x2.heap.size; omega) (.slice A4 n4 c4)
          rw [HSQ.out] at hP4
          have hP5 := hP4.fit HFS.out
          rw [HE.out] at hP5
          go_wp2
          go_roundw
          case rel => exact ⟨i + 1, A4, n4, c4, by go_num, by omega, hG5, by rw [HNEXT.out]; exact hP5, hX4, hR4, hN4, hb4⟩
          case measure => simp [intOf]; omega
      · have hiL' : i = L := by omega
        have hPn := hP
        rw [hiL', Nat.sub_self, Nat.pow_zero, Nat.div_one] at hPn
        have hcg := hG.cell0
        have hcr := hR.cell0
        have hfr := hR.free 0
        have hq := (hR.set0 (.slice Ap np cp)).cell0
        clear hL hP
        go_wp2
        exact bodyPost_ret (v := .tuple #[.agg #[.slice Ap np cp], .int .i64 0]) (by simp [results, Try.results13, go_sem, hq]) rfl ⟨_, rfl, hPn.far hR 0 _, hb.setCell (p := ⟨w.heap.size + 1, 0, none⟩) (by show w.heap.size ≤ w.heap.size + 1; omega) _⟩
end Go.Proofs.Ytpokpkocinhbfaa
