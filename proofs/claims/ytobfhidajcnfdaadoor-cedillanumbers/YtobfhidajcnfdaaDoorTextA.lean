/-
  digits.groupsOf: a number in groups of nine decimal digits, the lowest first.
-/
import Derived.Test.YtobfhidajcnfdaaDoorDivG
import Derived.Maps.AppendAt
import Derived.Deep.LoopGhost
import Derived.Deep.Onto
namespace Go.Proofs.YtobfhidajcnfdaaDoor
set_option linter.unusedVariables false
set_option maxRecDepth 20000
open Go.RowKit

/-- The groups of a number, the lowest first; at least one. -/
def groups (N : Nat) : List Nat := if h : N / 1000000000 = 0 then [N] else (N % 1000000000) :: groups (N / 1000000000)
termination_by N
decreasing_by omega

theorem groups_one {N : Nat} (h : N / 1000000000 = 0) : groups N = [N] := by rw [groups, dif_pos h]
theorem groups_more {N : Nat} (h : ¬ N / 1000000000 = 0) : groups N = (N % 1000000000) :: groups (N / 1000000000) := by rw [groups, dif_neg h]
theorem groups_length : ∀ (j N : Nat), N < 2 ^ j → (groups N).length ≤ j + 1
  | 0, N, h => by rw [groups_one (by simp at h; omega)]; simp
  | j + 1, N, h => by
    rcases Classical.em (N / 1000000000 = 0) with h0 | h0
    · rw [groups_one h0]; simp
    · rw [groups_more h0]
      have := groups_length j (N / 1000000000) (by rw [Nat.pow_succ] at h; omega)
      simp; omega

theorem IsN.lt2 {w : World} {v : Value} {k N : Nat} (h : IsN w v k N) : N < 2 ^ (32 * k) := by
  have h1 := h.lt
  rwa [show (4294967296 : Nat) = 2 ^ 32 by decide, ← Nat.pow_mul] at h1

theorem u64_info : (Tryd.prog.info? 57).map (fun i => (i.zero, i.size, i.bytes)) = some (some (.int .u64 0), 1, 8) := by kernel_rfl

/-- It answers the numbers l in a row of its own. -/
def RetO (t : TypeId) (k : IntKind) (l : List Nat) (w : World) (e : Ending) (w' : World) : Prop := ∃ v, e = .returned v ∧ w'.ownsRow w.heap.size t 1 v l.length (cellsOf k l) ∧ Below w.heap.size w w'

theorem own_kept {w w' : World} {B n size : Nat} {e : TypeId} {u : Value} {xs : List Value} (h : w.ownsRow B e size u n xs) (hb : Below w.heap.size w w') : w'.ownsRow B e size u n xs := by
  refine ⟨h.1, ?_⟩
  rcases h.2 with h0 | ⟨g, cap, cur, hv, hB, hg, r⟩
  · exact .inl h0
  · refine .inr ⟨g, cap, cur, hv, hB, ?_, r⟩
    have hlt : g < w.heap.size := by
      rcases Nat.lt_or_ge g w.heap.size with h' | h'
      · exact h'
      · simp [Array.getElem?_eq_none h'] at hg
    exact (hb.block g hlt).trans hg
theorem own_form {w : World} {B n : Nat} {e : TypeId} {u : Value} {xs : List Value} (h : w.ownsRow B e 1 u n xs) : ∃ ao cap, u = .slice ao n cap := by
  rcases h.2 with ⟨hv, h0⟩ | ⟨g, cap, cur, hv, _⟩
  · exact ⟨none, 0, by rw [hv, h0]⟩
  · exact ⟨_, _, hv⟩
theorem bel_new {V W : World} (h : Below V.heap.size V W) (o : Obj) : Below V.heap.size V (W.alloc o) := h.alloc h.size o

theorem own_base {w : World} {B B' n size : Nat} {e : TypeId} {u : Value} {xs : List Value} (h : w.ownsRow B e size u n xs) (hb : B' ≤ B) : w.ownsRow B' e size u n xs := by
  refine ⟨h.1, ?_⟩
  rcases h.2 with h0 | ⟨g, cap, cur, hv, hB, r⟩
  · exact .inl h0
  · exact .inr ⟨g, cap, cur, hv, by omega, r⟩

section
variable {w w' : World} {B n sz : Nat} {e : TypeId} {u : Value} {xs : List Value}
/-- What lies in a block of another type stays while a row of one's own grows. -/
theorem Blk.grown {g : Nat} {t : TypeId} {cs : Array Value} (h : Blk w g t cs) (hown : w.ownsRow B e sz u n xs) (hg : w.grownBy w' u.ownBlock) (ht : t ≠ e) : Blk w' g t cs := by
  refine (hg.block g h.lt ?_).trans h
  rcases hown.2 with ⟨rfl, _⟩ | ⟨g', cap, cur, rfl, _, hh, _⟩
  · simp [Value.ownBlock]
  · have := Blk.ne_ h (hh : Blk w g' e cur) ht
    simp [Value.ownBlock, this]
theorem Arr.grown {t : TypeId} {k : IntKind} {A : Option Addr} {l : List Nat} (h : Arr t k w A l) (hown : w.ownsRow B e sz u n xs) (hg : w.grownBy w' u.ownBlock) (ht : t ≠ e) : Arr t k w' A l := fun hn => by
  obtain ⟨g, o, cs, e, h1, hc⟩ := h hn
  exact ⟨g, o, cs, e, h1.grown hown hg ht, hc⟩
theorem IsN.grown {v : Value} {k N : Nat} (h : IsN w v k N) (hown : w.ownsRow B e sz u n xs) (hg : w.grownBy w' u.ownBlock) (ht : 43 ≠ e) : IsN w' v k N := by
  obtain ⟨A, c, l, e, h1, h2, h3, h4, h5⟩ := h
  exact ⟨A, c, l, e, h1.grown hown hg ht, h2, h3, h4, h5⟩
end

set_option maxHeartbeats 4000000 in
theorem groups_any (v : Value) (k N : Nat) (w : World) (h : IsN w v k N) (hk : k ≤ 90000) :
    Calls Tryd.prog 33 #[v] w (RetO 57 .u64 (groups N) w) := by
  obtain ⟨i0, hi0, hz0, hz1, hz2⟩ := info_parts u64_info
  obtain ⟨A0, n0, c0, rfl⟩ := h.shape
  have hgl := groups_length _ _ h.lt2
  go_enter Tryd.func33, Tryd.ntmps33
  go_wp2_with fail
  refine (of_any 1000000000 _ (by decide)).mono ?_
  rintro e w1 ⟨b, rfl, hb1, y1⟩
  obtain ⟨A1, n1, c1, rfl⟩ := hb1.shape
  have hX := Blk.over y1
  have hN1 := (h.alloc (.cells #[.slice A0 n0 c0] 26)).below y1
  have b1 := below_step (below_new w (.cells #[.slice A0 n0 c0] 26)) y1
  have hXl := hX.lt
  have hB2 := Blk.new w1 26 #[.slice A1 n1 c1]
  have hX2 := hX.alloc (.cells #[.slice A1 n1 c1] 26)
  have hN2 := hN1.alloc (.cells #[.slice A1 n1 c1] 26)
  have hM2 := hb1.alloc (.cells #[.slice A1 n1 c1] 26)
  have b2 := below_step b1 (below_new w1 (.cells #[.slice A1 n1 c1] 26))
  have h1s := b1.size
  go_wp2
  go_loopg [4] N (fun M u wx => ∃ A n c done, Aside (groups N = done ++ groups M) ∧ Blk wx w.heap.size 26 #[.slice A n c] ∧ IsN wx (.agg #[.slice A n c]) k M ∧ Blk wx w1.heap.size 26 #[.slice A1 n1 c1] ∧ IsN wx (.agg #[.slice A1 n1 c1]) 2 1000000000 ∧ wx.ownsRow (w1.heap.size + 1) 57 1 u done.length (cellsOf .u64 done) ∧ Below w.heap.size w wx ∧ w1.heap.size + 1 ≤ wx.heap.size)
  case atStart => exact ⟨A0, n0, c0, [], rfl, hX2, hN2, hB2, hM2, ⟨by simp [cellsOf], .inl ⟨rfl, rfl⟩⟩, b2, by simp⟩
  case round =>
    obtain ⟨A, n, c, done, hg, hX, hN, hB, hM, hown, hb, hsz⟩ := hrel
    have hcx := hX.cell0
    have hcb := hB.cell0
    have hgd : done.length ≤ 32 * k := by
      have h1 : (groups N).length = done.length + (groups gk).length := by rw [hg.out]; simp
      have h2 : 1 ≤ (groups gk).length := by
        rw [groups]; split <;> simp
      omega
    go_wp2_with fail
    refine (divMod_all _ _ k gk 1000000000 2 _ hN hM (by decide) (by decide) hk (by decide)).mono ?_
    rintro e w3 ⟨qv, rv, rfl, hQ, hR, y3⟩
    obtain ⟨A3, n3, c3, rfl⟩ := hQ.shape
    obtain ⟨A4, n4, c4, rfl⟩ := hR.shape
    have hX3 := hX.on y3
    have hB3 := hB.on y3
    have hM3 := hM.below y3
    have hown3 := own_kept hown y3
    have hb3 := below_step hb y3
    have hs3 := y3.size
    clear hX hN hB hM hown hb hcx hcb y3
    have Y4 := bel_new (bel_new (Below.refl _ w3) (.cells #[.slice A3 n3 c3] 26)) (.cells #[.slice A4 n4 c4] 26)
    have h5 : Blk ((w3.alloc (.cells #[.slice A3 n3 c3] 26)).alloc (.cells #[.slice A4 n4 c4] 26)) w3.heap.size 26 #[.slice A3 n3 c3] := (Blk.new w3 26 _).alloc _
    have h6 : Blk ((w3.alloc (.cells #[.slice A3 n3 c3] 26)).alloc (.cells #[.slice A4 n4 c4] 26)) (w3.heap.size + 1) 26 #[.slice A4 n4 c4] := by
      have := Blk.new (w3.alloc (.cells #[.slice A3 n3 c3] 26)) 26 #[.slice A4 n4 c4]
      simpa using this
    have hX4 := hX3.on Y4
    have hB4 := hB3.on Y4
    have hM4 := hM3.below Y4
    have hQ4 := hQ.below Y4
    have hR4 := hR.below Y4
    have hown4 := own_kept hown3 Y4
    have hb4 := below_step hb3 Y4
    have c6 := h6.cell0
    have c5 := h5.cell0
    go_wp2_with fail
    generalize hW4 : (w3.alloc (.cells #[.slice A3 n3 c3] 26)).alloc (.cells #[.slice A4 n4 c4] 26) = W4 at *
    have hs4 : w1.heap.size + 1 ≤ W4.heap.size := by rw [← hW4]; simp; omega
    clear hW4 hX3 hB3 hM3 hown3 hb3 Y4 hQ hR c5 c6 hs3
    have hr9 : gk % 1000000000 < 1000000000 := Nat.mod_lt _ (by decide)
    have HG : Hid (groups gk = if gk / 1000000000 = 0 then [gk % 1000000000] else (gk % 1000000000) :: groups (gk / 1000000000)) := by
      by_cases h0 : gk / 1000000000 = 0
      · rw [Hid, groups_one h0, if_pos h0, Nat.mod_eq_of_lt (by omega)]
      · rw [Hid, groups_more h0, if_neg h0]
    have HL : Hid (gk / 1000000000 = 0 ∨ gk / 1000000000 < gk) := by rw [Hid]; omega
    generalize gk % 1000000000 = r at *
    generalize gk / 1000000000 = q at *
    refine (uint64_in _ 2 _ _ hR4 (by decide) (by omega)).mono ?_
    rintro e w5 ⟨rfl, y5⟩
    have h5 := h5.on y5
    have hX5 := hX4.on y5
    have hB5 := hB4.on y5
    have hM5 := hM4.below y5
    have hQ5 := hQ4.below y5
    have hown5 := own_kept hown4 y5
    have hb5 := below_step hb4 y5
    have hs5 := y5.size
    have hd8 : (done.length + 1) * 8 ≤ 140737488355328 := by omega
    have hd9 : done.length ≤ 2880000 := by omega
    clear h6 hX4 hB4 hM4 hQ4 hR4 hown4 hb4 y5
    have ho6 := hown5.alloc (.cells #[.int .u64 (r : Nat)] 57)
    go_wp2_with (at_builtin; refine wpList_append_own _ rfl (.tmp 23) (.tmp 25) 63 rfl (w1.heap.size + 1) 57 i0 (.int .u64 0) 1 8 Tryd.underlying63 hi0 hz0 hz1 hz2 rfl (by decide) u4 done.length (cellsOf .u64 done) rfl ho6 ⟨w5.heap.size, 0, none⟩ 1 1 [.int .u64 (r : Nat)] rfl rfl (cell_one_new _ _ _) (by simp [Value.oneCell']) (by unfold maxLen; omega) hd8 (by simp; omega) ?_; intro v' w6 hown6 hgrow _; have h56 := (h5.alloc _).grown ho6 hgrow (by decide); have hX6 := (hX5.alloc _).grown ho6 hgrow (by decide); have hB6 := (hB5.alloc _).grown ho6 hgrow (by decide); have hM6 := (hM5.alloc _).grown ho6 hgrow (by decide); have hQ6 := (hQ5.alloc _).grown ho6 hgrow (by decide); have hb6 : Below w.heap.size w w6 := (bel_new hb5 _).grown hgrow (by simp; omega) (fun k hk => by have := (ho6.lt k hk).1; omega); have hs6 := hgrow.size; clear hgrow; have c56 := h56.cell0)
    have hsn : cellsOf .u64 done ++ [.int .u64 (r : Nat)] = cellsOf .u64 (done ++ [r]) := by simp [cellsOf]
    rw [hsn] at hown6
    clear hsn ho6 hown5 hX5 hB5 hM5 hQ5 hb5 h5 c56
    simp only [Array.size_push, World.alloc] at hs6
    by_cases hq : q = 0
    · subst hq
      refine (zero_any _ k 0 true _ hQ6 (by simp)).mono ?_
      rintro e w7 ⟨rfl, y7⟩
      have hown7 := own_kept hown6 y7
      obtain ⟨ao, cap, rfl⟩ := own_form hown7
      go_wp2
      go_ret
      have he : groups N = done ++ [r] := by rw [hg.out, HG.out]; simp
      have hlen : (done ++ [r]).length = done.length + 1 := by simp
      exact ⟨_, rfl, by rw [he, hlen]; exact own_base hown7 (by omega), below_step hb6 y7⟩
    · refine (zero_any _ k q false _ hQ6 (by simp [hq])).mono ?_
      rintro e w7 ⟨rfl, y7⟩
      have hown7 := own_kept hown6 y7
      have h57 := h56.on y7
      have hX7 := hX6.on y7
      have hB7 := hB6.on y7
      have hM7 := hM6.below y7
      have hQ7 := hQ6.below y7
      have hb7 := below_step hb6 y7
      have hs7 := y7.size
      have c57 := h57.cell0
      have cx7 := hX7.cell0
      have fx7 := hX7.free 0
      have HQ := Lib.hid hq
      clear hq hown6 h56 hX6 hB6 hM6 hQ6 hb6 y7
      go_wp2
      go_roundg q
      case measure => have := HL.out; have := HQ.out; omega
      case rel =>
        have hne : w1.heap.size ≠ w.heap.size := by omega
        refine ⟨A3, n3, c3, done ++ [r], by rw [Aside, hg.out, HG.out, if_neg HQ.out]; simp, hX7.set0 _, hQ7.far hX7 0 _, hB7.far (p := ⟨w.heap.size, 0, none⟩) hne _, hM7.far hX7 0 _, ?_, hb7.setCell (p := ⟨w.heap.size, 0, none⟩) (Nat.le_refl _) _, by simp; omega⟩
        have hlen : (done ++ [r]).length = done.length + 1 := by simp
        rw [hlen]
        exact ownsRow_setCell_below hown7 (by show w.heap.size < _; omega) _
end Go.Proofs.YtobfhidajcnfdaaDoor
