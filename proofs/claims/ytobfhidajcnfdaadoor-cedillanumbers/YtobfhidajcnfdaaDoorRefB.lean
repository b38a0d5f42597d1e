/-
  Contracts of the document's own arithmetic in decimal digits: Add, Times, Of, Num, Sub.
-/
import Derived.Test.YtobfhidajcnfdaaDoorRefA
namespace Go.Proofs.YtobfhidajcnfdaaDoor
set_option linter.unusedVariables false
set_option maxRecDepth 20000
open Go.RowKit

/-- The one cell that an append of one number takes. -/
theorem one_src {w : World} {t : TypeId} {x : Int} : ∀ (j : Nat) (u : Value), [Value.int .i64 x][j]? = some u → (w.alloc (.cells #[.int .i64 x] t)).cell? ((⟨w.heap.size, 0, none⟩ : Addr).add j) = some u := by
  intro j u hu
  match j, hu with
  | 0, hu => simp at hu; subst hu; rw [add_zero_block]; exact (Blk.new w t _).cell0
theorem one_cell {k : IntKind} {x : Int} : ∀ u ∈ [Value.int k x], u.oneCell' = true := by
  intro u hu; simp at hu; subst hu; rfl

/-- Behind an append of one number to a row of one's own. -/
theorem own_snoc {w wr w1 : World} {B : Nat} {t : TypeId} {k : IntKind} {v v' : Value} {l : List Nat} {X : Int} {d : Nat} {o : Obj} (hown : wr.ownsRow B t 1 v l.length (cellsOf k l)) (hbw : Below B w wr) (hB : B ≤ w.heap.size)
    (hown1 : w1.ownsRow B t 1 v' (l.length + 1) (cellsOf k l ++ [.int k X])) (hX : X = (d : Nat)) (hgrow : (wr.alloc o).grownBy w1 v.ownBlock) :
    w1.ownsRow B t 1 v' (l ++ [d]).length (cellsOf k (l ++ [d])) ∧ Below B w w1 := by
  subst hX
  refine ⟨by simpa [cellsOf] using hown1, (hbw.alloc (Nat.le_trans hB hbw.size) o).grown hgrow ?_ fun g hg => (hown.lt g hg).1⟩
  have := hbw.size; simp; omega

theorem snoc_lt {b : Nat} {l : List Nat} (h : ∀ x ∈ l, x < b) {d : Nat} (hd : d < b) : ∀ x ∈ l ++ [d], x < b := by
  intro x hx
  rcases List.mem_append.1 hx with h1 | h1
  · exact h x h1
  · simp at h1; omega

set_option maxHeartbeats 1000000 in
/-- 'Times' of the document. -/
theorem timesD_any (v : Value) (k N b more : Nat) (w : World) (h : IsD w v k N) (hk : k ≤ 900000) (hb : b ≤ 4294967296) (hm : more < 4294967296) :
    Calls Tryd.prog 39 #[v, .int .u64 b, .int .u64 more] w (RetD (k + 10) (N * b + more) w) := by
  obtain ⟨l, ⟨A, c, rfl, hr, hlc⟩, hn, hv, hlk⟩ := h
  obtain ⟨i0, hi0, hz0, hz1, hz2⟩ := info_parts int_info
  have htot : N * b + more < 10 ^ (l.length + 10) := by
    have h1 : N < 10 ^ l.length := by rw [← hv]; exact val_lt (by decide) hn.1
    have h2 : N * b ≤ N * 4294967296 := Nat.mul_le_mul_left _ hb
    have h3 : (N + 1) * 4294967296 ≤ 10 ^ l.length * 4294967296 := Nat.mul_le_mul_right _ h1
    have h4 : 10 ^ l.length * 4294967296 ≤ 10 ^ l.length * 10 ^ 10 := Nat.mul_le_mul_left _ (by decide)
    rw [Nat.pow_add]
    omega
  have HV := Lib.hid hv
  clear hv
  go_enter Tryd.func39, Tryd.ntmps39
  go_wp2
  go_loopw [7, 8, 9] (fun o cr t wr => ∃ (i cy : Nat) (out : List Nat), t = .int .i64 i ∧ cr = .int .u64 cy ∧ cy < 4294967296 ∧ out.length = i ∧ i ≤ l.length + 10 ∧ (∀ d ∈ out, d < 10) ∧
      val 10 out + 10 ^ i * (cy + b * val 10 (l.drop i)) = N * b + more ∧ wr.ownsRow w.heap.size 3 1 o i (cellsOf .i64 out) ∧ Below w.heap.size w wr) (fun _ cr t _ => (l.length - (intOf t).toNat) * 8589934592 + (intOf cr).toNat)
  case atStart => exact ⟨0, more, [], rfl, rfl, hm, rfl, by omega, by simp, by rw [← HV.out]; simp [val]; rw [Nat.mul_comm b]; omega, World.ownsRow_lit w #[] 0 (Nat.le_refl _) (by decide) rfl, below_new _ _⟩
  case round =>
    obtain ⟨i, cy, out, rfl, rfl, hcy, hol, hi, hod, hval, hown, hbw⟩ := hrel
    have hrw := hr.below hbw
    have HO := Lib.hid hol
    have HV2 := Lib.hid hval
    clear hol hval
    by_cases hgo : i < l.length ∨ 0 < cy
    · have hi10 : i < l.length + 10 := by
        rcases hgo with h1 | h1
        · omega
        · have h2 := HV2.out
          have h3 : 10 ^ i * 1 ≤ 10 ^ i * (cy + b * val 10 (l.drop i)) := Nat.mul_le_mul_left _ (by omega)
          exact pow_lt_of (b := 10) (by decide) (x := N * b + more) (by omega) htot
      have hdl := getD_lt (b := 10) (by decide) hn.1 i
      obtain ⟨d, hd⟩ : ∃ d, d = l.getD i 0 := ⟨_, rfl⟩
      rw [← hd] at hdl
      have hdb : d * b ≤ 9 * 4294967296 := Nat.mul_le_mul (by omega) hb
      obtain ⟨p, hp⟩ : ∃ p, p = d * b := ⟨_, rfl⟩
      rw [← hp] at hdb
      have hpI : (d : Int) * (b : Int) = (p : Int) := by rw [hp]; exact (Int.natCast_mul d b).symm
      have hval2 : val 10 (out ++ [(p + cy) % 10]) + 10 ^ (i + 1) * ((p + cy) / 10 + b * val 10 (l.drop (i + 1))) = N * b + more := by
        have h2 := HV2.out
        rw [val_drop_next, ← hd] at h2
        rw [val_snoc, HO.out, ← h2, Nat.pow_succ, Nat.mul_assoc, Nat.add_assoc, ← Nat.mul_add]
        congr 2
        have h3 := Nat.mod_add_div (p + cy) 10
        rw [Nat.mul_add b, ← Nat.mul_assoc b 10, Nat.mul_comm b 10, Nat.mul_assoc 10 b, Nat.mul_comm b d, ← hp, Nat.mul_add 10]
        omega
      have AT := Lib.hid (fun w' (hr' : Arr 3 .i64 w' A l) => at_any A l.length c i l w' rfl hr' (by omega) (by omega))
      rw [← hd] at AT
      have HV3 := Lib.hid hval2
      have HD := Lib.hid hd
      have HG := Lib.hid hgo
      clear hval2 hd hp htot hgo
      have hown2 := hown
      rw [← HO.out] at hown2
      have hsum0 : (0 : Int) ≤ (p : Int) + (cy : Int) := by omega
      by_cases hil : i < l.length
      · go_wp2_with fail
        refine (AT.out _ hrw).mono ?_
        rintro e w' ⟨rfl, rfl⟩
        go_wp2_with (at_builtin; refine wpList_append_own _ rfl (.tmp 31) (.tmp 35) 33 rfl w.heap.size 3 i0 (.int .i64 0) 1 8 Tryd.underlying33 hi0 hz0 hz1 hz2 rfl (by decide) u7 i (cellsOf .i64 out) rfl (hown.alloc _) ⟨wr.heap.size, 0, none⟩ 1 1 [.int .i64 (((p : Int) + (cy : Int)) % 10)] rfl rfl one_src one_cell (by unfold maxLen; omega) (by omega) (by have := hbw.size; simp; omega) ?_; intro v' w1 hown1 hgrow _)
        have hown3 := hown1
        rw [← HO.out] at hown3
        have R := own_snoc (d := (p + cy) % 10) hown2 hbw (Nat.le_refl _) hown3 (by omega) hgrow
        have hlen : (out ++ [(p + cy) % 10]).length = i + 1 := by rw [List.length_append, HO.out]; rfl
        rw [hlen] at R
        go_roundw
        case rel => exact ⟨i + 1, (p + cy) / 10, out ++ [(p + cy) % 10], by go_num, by go_num, by omega, hlen, by omega, snoc_lt hod (Nat.mod_lt _ (by decide)), HV3.out, R.1, R.2⟩
        case measure => simp [intOf]; omega
      · have hcy0 : 0 < cy := by have := HG.out; omega
        have hgo' : ¬ ((i : Int) < (l.length : Int)) := by omega
        go_wp2_with fail
        refine (AT.out _ hrw).mono ?_
        rintro e w' ⟨rfl, rfl⟩
        go_wp2_with (at_builtin; refine wpList_append_own _ rfl (.tmp 31) (.tmp 35) 33 rfl w.heap.size 3 i0 (.int .i64 0) 1 8 Tryd.underlying33 hi0 hz0 hz1 hz2 rfl (by decide) u7 i (cellsOf .i64 out) rfl (hown.alloc _) ⟨wr.heap.size, 0, none⟩ 1 1 [.int .i64 (((p : Int) + (cy : Int)) % 10)] rfl rfl one_src one_cell (by unfold maxLen; omega) (by omega) (by have := hbw.size; simp; omega) ?_; intro v' w1 hown1 hgrow _)
        have hown3 := hown1
        rw [← HO.out] at hown3
        have R := own_snoc (d := (p + cy) % 10) hown2 hbw (Nat.le_refl _) hown3 (by omega) hgrow
        have hlen : (out ++ [(p + cy) % 10]).length = i + 1 := by rw [List.length_append, HO.out]; rfl
        rw [hlen] at R
        have hd0 : d = 0 := by rw [HD.out]; simp [List.getD, List.getElem?_eq_none (by omega : l.length ≤ i)]
        have hp0 : p = 0 := by have := hpI; rw [hd0] at this; simp at this; omega
        go_roundw
        case rel => exact ⟨i + 1, (p + cy) / 10, out ++ [(p + cy) % 10], by go_num, by go_num, by omega, hlen, by omega, snoc_lt hod (Nat.mod_lt _ (by decide)), HV3.out, R.1, R.2⟩
        case measure => simp [intOf]; omega
    · have hil : ¬ i < l.length := fun h => hgo (.inl h)
      have hcy0 : cy = 0 := by omega
      subst hcy0
      have hfin : val 10 out = N * b + more := by
        have h2 := HV2.out
        rw [List.drop_of_length_le (by omega)] at h2
        simpa [val] using h2
      have hI := own_isL (k := .i64) (l := out) (by rw [HO.out]; exact hown)
      obtain ⟨A1, c1, rfl, hr1, hc1⟩ := hI
      have T := trimD_any A1 out.length c1 out wr rfl hr1 hod (by rw [HO.out]; omega) hc1
      rw [hfin] at T
      have HT := Lib.hid T
      clear T hfin hgo htot
      go_wp2_with fail
      refine HT.out.mono ?_
      rintro e w1 ⟨v, rfl, hD, hb1⟩
      go_wp2
      go_ret
      exact ⟨_, rfl, hD.more (by rw [HO.out]; omega), below_step hbw hb1⟩
end Go.Proofs.YtobfhidajcnfdaaDoor
