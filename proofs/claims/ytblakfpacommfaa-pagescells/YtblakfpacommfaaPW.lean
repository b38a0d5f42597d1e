/-
  pages: the document's blocks: Block, alike.
-/
import Derived.Test.YtblakfpacommfaaPU
namespace Go.Proofs.Ytblakfpacommfaa
set_option linter.unusedVariables false
set_option maxRecDepth 20000
open Go.RowKit

theorem cellsZ_mem (f : Nat → Nat) (m : Nat) (p : Int × Nat) : p ∈ cellsZ f m ↔ 0 ≤ p.1 ∧ p.1 < (m : Int) ∧ p.2 = f p.1.toNat ∧ p.2 ≠ 0 := by
  unfold cellsZ
  constructor
  · intro h
    obtain ⟨x, hx, rfl⟩ := List.mem_map.1 h
    obtain ⟨h1, h2, h3⟩ := (cellsTo_mem f m x.1 x.2).1 hx
    simp only [Int.toNat_natCast]
    exact ⟨by omega, by omega, h2, by rw [h2]; exact h3⟩
  · rintro ⟨h1, h2, h3, h4⟩
    obtain ⟨c, v⟩ := p
    simp only at h1 h2 h3 h4
    obtain ⟨c, rfl⟩ := Int.eq_ofNat_of_zero_le h1
    rw [Int.toNat_natCast] at h3
    exact List.mem_map.2 ⟨(c, v), (cellsTo_mem f m c v).2 ⟨by omega, h3, by rw [← h3]; exact h4⟩, rfl⟩
theorem cellsZ_dist (f : Nat → Nat) (m : Nat) : Dist (cellsZ f m) := by
  unfold Dist cellsZ
  rw [List.pairwise_map]
  exact (cellsTo_rise f m).imp fun {a b} h => by simp only; omega
/-- The numbers of the cells are those that they are of. -/
theorem valAt_cellsZ (f : Nat → Nat) (m c : Nat) (hc : c < m) : valAt (cellsZ f m) c = f c := by
  by_cases h : f c = 0
  · rw [h]
    refine valAt_none_of fun x hx e => ?_
    obtain ⟨_, _, h3, h4⟩ := (cellsZ_mem f m x).1 hx
    rw [e, Int.toNat_natCast, h] at h3
    exact h4 h3
  · exact valAt_of (x := ((c : Int), f c)) (cellsZ_dist f m) ((cellsZ_mem f m _).2 ⟨by simp only; omega, by simp only; omega, by simp, h⟩) rfl
theorem cellsZ_inj {f g : Nat → Nat} {m : Nat} (h : cellsZ f m = cellsZ g m) : ∀ c, c < m → f c = g c := fun c hc => by
  rw [← valAt_cellsZ f m c hc, ← valAt_cellsZ g m c hc, h]
theorem cellsZ_congr {f g : Nat → Nat} (m : Nat) (h : ∀ c, c < m → f c = g c) : cellsZ f m = cellsZ g m := by
  unfold cellsZ
  rw [cellsTo_congr m h]

/-- It answers cells of the document in a row of its own. -/
def RetRf (L : List (Int × Nat)) (w : World) (e : Ending) (w' : World) : Prop := ∃ v, e = .returned v ∧ w'.ownsRow w.heap.size 31 2 v L.length (rfC L) ∧ Below w.heap.size w w'

set_option maxHeartbeats 4000000 in
theorem block_any (A : Option Addr) (q : Nat) (l : List (Int × Nat)) (a : Nat) (w : World) (ht : RefsAt w A l) (hn : l.length ≤ 2000000) (ha : a < 4352) (hv : ∀ x ∈ l, x.2 < 65536) :
    Calls Try.prog 17 #[.slice A l.length q, .int .i64 (a : Int)] w (RetRf (cellsZ (fun i => valAt l (a * 256 + i)) 256) w) := by
  obtain ⟨i1, hi1, ha0, ha1, ha2⟩ := info_parts info31
  have HT := Lib.hid fun W (hb : Below w.heap.size w W) => ht.below hb
  have HV := Lib.hid fun c => valAt_lt hv c
  clear ht hv
  obtain ⟨n, hn'⟩ : ∃ n, l.length = n := ⟨_, rfl⟩
  rw [hn'] at hn ⊢
  have HN := Lib.hid hn'
  clear hn'
  have ho := World.ownsRow_lit (base := w.heap.size) (e := 31) (size := 2) w #[] 0 (Nat.le_refl _) (by decide) rfl
  have b0 := below_new w (.cells #[] 31)
  go_enter Try.func17, Try.ntmps17
  go_wp2
  generalize w.alloc (.cells #[] 31) = V at *
  go_loopw [6, 5] (fun s t wr => ∃ (i k : Nat), s = .int .i64 (i : Int) ∧ i ≤ 256 ∧ wr.ownsRow w.heap.size 31 2 t k (rfC (cellsZ (fun i => valAt l (a * 256 + i)) i)) ∧ (cellsZ (fun i => valAt l (a * 256 + i)) i).length = k ∧ Below w.heap.size w wr) (fun s _ _ => 256 - (intOf s).toNat)
  case atStart => exact ⟨0, 0, rfl, by omega, ho, rfl, b0⟩
  case round =>
    obtain ⟨i, k, rfl, hi0, hu, hkl, hb⟩ := hrel
    have HKL := Lib.hid hkl
    have hkle := cellsZ_le (fun i => valAt l (a * 256 + i)) i
    rw [hkl] at hkle
    clear hkl ho b0
    obtain ⟨uA, uq, rfl⟩ := own_len' hu
    by_cases hi : i < 256
    · have hskip := Lib.hid fun h => cellsZ_skip (f := fun i => valAt l (a * 256 + i)) (m := i) h
      have hmore := Lib.hid fun h => cellsZ_more (f := fun i => valAt l (a * 256 + i)) (m := i) h
      have hvl := HV.out (a * 256 + i)
      have ham : (256 : Int) * (a : Int) + (i : Int) = ((a * 256 + i : Nat) : Int) := by omega
      have ha1' : (256 : Int) * (a : Int) ≤ 1114112 := by omega
      obtain ⟨c, hc⟩ : ∃ c, a * 256 + i = c := ⟨_, rfl⟩
      rw [hc] at ham hvl
      have HC := Lib.hid hc
      have hcl : c ≤ 1114111 := by omega
      clear hc
      go_wp2
      generalize wr = w1 at *
      go_loopw [17, 7] (fun s t wr => ∃ j : Nat, s = .int .i64 (j : Int) ∧ t = .int .i64 (valAt (l.take j) c : Nat) ∧ j ≤ n ∧ Below w1.heap.size w1 wr) (fun s _ _ => n - (intOf s).toNat)
      case atStart => exact ⟨0, rfl, rfl, by omega, Below.refl _ _⟩
      case round =>
        obtain ⟨j, rfl, rfl, hj0, hb2⟩ := hrel
        by_cases hj : j < n
        · have hjl : j < l.length := by rw [HN.out]; exact hj
          obtain ⟨g, o, rfl, hg, c1, c2⟩ := (HT.out _ (below_step hb hb2)).at_ hjl
          have hv' := valAt_more (l.take j) (l.getD j (0, 0)) c
          have htk : l.take (j + 1) = l.take j ++ [l.getD j (0, 0)] := by rw [List.take_add_one, List.getElem?_eq_getElem hjl, getD_of' hjl]; rfl
          rw [← htk] at hv'
          have HV' := Lib.hid hv'
          clear hv' htk
          generalize l.getD j (0, 0) = cv at *
          obtain ⟨x, v⟩ := cv
          dsimp only at c1 c2
          by_cases hxc : x = (c : Int)
          · subst hxc
            go_wp2
            go_roundw
            case rel => exact ⟨j + 1, by go_num, by rw [HV'.out, if_pos rfl], by omega, below_step hb2 (below_new _ _)⟩
            case measure => simp [intOf]; omega
          · have hxc' : (x == (c : Int)) = false := by simpa using hxc
            go_wp2
            go_roundw
            case rel => exact ⟨j + 1, by go_num, by rw [HV'.out, if_neg hxc], by omega, below_step hb2 (below_new _ _)⟩
            case measure => simp [intOf]; omega
        · obtain rfl : j = n := by omega
          have htl : l.take j = l := by rw [← HN.out, List.take_length]
          rw [htl]
          have hu2 := own_on hu hb2
          have b2 := below_step hb hb2
          by_cases hz : valAt l c = 0
          · rw [hz]
            have hsk := Lib.hid (hskip.out (by rw [HC.out]; exact hz))
            go_wp2
            go_roundw
            case rel => exact ⟨i + 1, k, by go_num, by omega, by rw [hsk.out]; exact hu2, by rw [hsk.out]; exact HKL.out, b2⟩
            case measure => simp [intOf]; omega
          · have hsk := hmore.out (by rw [HC.out]; exact hz)
            rw [HC.out] at hsk
            have hsk := Lib.hid hsk
            generalize valAt l c = v at *
            have hz2 : ((v : Int) != 0) = true := by simp; omega
            have hz3 : ((v : Int) == 0) = false := by simp; omega
            have hu3 := hu2.alloc (.cells #[.int .i64 (i : Int), .int .i64 (v : Int)] 31)
            have b3 := below_step b2 (below_new wr (.cells #[.int .i64 (i : Int), .int .i64 (v : Int)] 31))
            have hnw := World.news_of_block (cs := #[.int .i64 (i : Int), .int .i64 (v : Int)]) (t := 31) (fr := (0, 0)) (heap_alloc_new wr (.cells #[.int .i64 (i : Int), .int .i64 (v : Int)] 31))
            have h63 : k + 1 ≤ maxLen := by unfold maxLen; omega
            have h8 : (k + 1) * 16 ≤ 140737488355328 := by omega
            have hbs := b3.size
            go_wp2_with (at_builtin; refine wpList_append_own _ rfl (.tmp 33) (.tmp 37) 22 rfl w.heap.size 31 i1 _ 2 16 Try.underlying22 hi1 ha0 ha1 ha2 rfl (by decide) (.slice uA k uq) k (rfC (cellsZ (fun i => valAt l (a * 256 + i)) i)) rfl hu3 ⟨wr.heap.size, 0, none⟩ 1 1 [.int .i64 (i : Int), .int .i64 (v : Int)] rfl rfl hnw (by simp [Value.oneCell']) h63 h8 hbs ?_; intro v4 w4 hown4 hgrow4 _)
            go_roundw
            case rel =>
              refine ⟨i + 1, k + 1, by go_num, by omega, ?_, ?_, b3.grown hgrow4 hbs (fun kk h => (hu3.lt kk h).1)⟩
              · rw [hsk.out, rfC_append]
                exact hown4
              · rw [hsk.out, List.length_append, HKL.out]
                rfl
            case measure => simp [intOf]; omega
    · obtain rfl : i = 256 := by omega
      go_wp2
      go_ret
      refine ⟨_, rfl, ?_, hb⟩
      rw [HKL.out]
      exact hu
end Go.Proofs.Ytblakfpacommfaa
