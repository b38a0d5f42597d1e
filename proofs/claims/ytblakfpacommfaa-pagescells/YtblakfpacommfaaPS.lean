/-
  The law PagesGets.
-/
import Derived.Test.YtblakfpacommfaaPR
namespace Go.Proofs.Ytblakfpacommfaa
set_option linter.unusedVariables false
set_option maxRecDepth 20000
open Go.RowKit

def cellsJ (l : List Int) : List Value := l.map fun x => Value.int .i64 x
theorem cellsJ_length (l : List Int) : (cellsJ l).length = l.length := by simp [cellsJ]
theorem cellsJ_append (l r : List Int) : cellsJ (l ++ r) = cellsJ l ++ cellsJ r := by simp [cellsJ]
theorem cellsJ_get (l : List Int) {i : Nat} (h : i < l.length) : (cellsJ l)[i]? = some (.int .i64 (l.getD i 0)) := by simp [cellsJ, List.getD, h]
theorem info3 : (Try.prog.info? 3).map (fun i => (i.zero, i.size, i.bytes)) = some (some (.int .i64 0), 1, 8) := by kernel_rfl
def In32 (x : Int) : Prop := -2147483648 ≤ x ∧ x ≤ 2147483647
theorem own_ints {w : World} {B : Nat} {v : Value} {Z : List Int} (h : w.ownsRow B 3 1 v Z.length (cellsJ Z)) : ∃ A c, v = .slice A Z.length c ∧ ∀ i, i < Z.length → ∃ g, A = some ⟨g, 0, none⟩ ∧ g < w.heap.size ∧ w.cell? ⟨g, i, none⟩ = some (.int .i64 (Z.getD i 0)) := by
  rcases h.2 with ⟨rfl, h0⟩ | ⟨g, cap, cur, rfl, _, hh, hnc, _⟩
  · have : Z = [] := List.length_eq_zero_iff.1 h0
    subst this
    exact ⟨none, 0, rfl, fun i hi => by simp at hi⟩
  · refine ⟨_, cap, rfl, fun i hi => ⟨g, rfl, (Array.getElem?_eq_some_iff.1 hh).1, ?_⟩⟩
    have c1 := h.cells (g := g) rfl _ _ (cellsJ_get Z hi)
    rw [add_zero_block] at c1
    exact c1

set_option maxHeartbeats 4000000 in
theorem pagesGets_walk (A : Option Addr) (n c : Nat) (l : List (Int × Int)) (r : Int) (w : World) (hL : l.length = n) (hr : PairIn w A l) (hn : n ≤ 9223372036854775807) (hr1 : -2147483648 ≤ r) (hr2 : r ≤ 2147483647) :
    Calls Try.prog 3 #[.slice A n c, .int .i32 r] w (RetV (.bool true) w) := by
  have hAW := Lib.hid fun W => awake_any W
  have hFW := Lib.hid fun W (hb : Below w.heap.size w W) => few_any A n c l W hL (hr.below hb) hn
  obtain ⟨i1, hi1, ha0, ha1, ha2⟩ := info_parts info3
  have hok := Lib.hid (fewL_ok l)
  have h30 := fewL_length l
  clear hL hr hn
  generalize fewL l = X at *
  go_enter Try.func3, Try.ntmps3
  go_wp2_with fail
  with_reducible refine (hAW.out _).mono ?_
  rintro e w1 ⟨rfl, y1⟩
  clear hAW
  go_wp2_with fail
  with_reducible refine (hFW.out _ y1).mono ?_
  rintro e w2 ⟨u, v, rfl, hu, hv, y2⟩
  clear hFW
  obtain ⟨uA, uq, rfl, hR⟩ := own_refs hu
  obtain ⟨vA, vq, rfl, hC⟩ := own_cells hv
  have b2 := below_step y1 y2
  have HN := Lib.hid (new_pages vA vq X w2 hC (by omega) hok.out)
  have HRf := Lib.hid fun (x : Int) (h1 : -9223372036854775808 ≤ x) (h2 : x ≤ 9223372036854775807) W (hb : Below w2.heap.size w2 W) => refGet_any uA uq X x W (hR.below hb) (by omega) h1 h2
  have HR := Lib.hid fun W (hb : Below w2.heap.size w2 W) => hR.below hb
  have hcod : Hid (∀ i, i < X.length → -2147483648 ≤ (X.getD i (0, 0)).1 ∧ (X.getD i (0, 0)).1 ≤ 2147483647 ∧ (X.getD i (0, 0)).2 < 65536) := Lib.hid fun (i : Nat) (hi : i < X.length) => by rw [getD_of' hi]; exact hok.out _ (List.getElem_mem hi)
  clear hu hv hR hC
  obtain ⟨m, hm⟩ : ∃ m, X.length = m := ⟨_, rfl⟩
  have HM := Lib.hid hm
  rw [hm] at h30 HN HRf ⊢
  clear hm
  go_wp2_with fail
  with_reducible refine HN.out.mono ?_
  rintro e w3 ⟨g, pn, K, W, rfl, hp1, hp2, y3, _⟩
  clear HN
  have HG := Lib.hid fun (x : Int) (h1 : -2147483648 ≤ x) (h2 : x ≤ 2147483647) W' (hb : Below w3.heap.size w3 W') => get_any hp1 x W' g (hp2.below hb) h1 h2
  clear hp1 hp2
  have b3 := below_step b2 y3
  go_wp2_with fail
  have hown0 := World.ownsRow_lit (base := w3.heap.size) (e := 3) (size := 1) w3 #[.int .i64 r, .int .i64 (-1), .int .i64 0, .int .i64 1114111, .int .i64 1114112] 5 (Nat.le_refl _) (by decide) rfl
  have b4 := below_step b3 (below_new w3 (.cells #[.int .i64 r, .int .i64 (-1), .int .i64 0, .int .i64 1114111, .int .i64 1114112] 3))
  have y4 := below_new w3 (.cells #[.int .i64 r, .int .i64 (-1), .int .i64 0, .int .i64 1114111, .int .i64 1114112] 3)
  generalize w3.alloc (.cells #[.int .i64 r, .int .i64 (-1), .int .i64 0, .int .i64 1114111, .int .i64 1114112] 3) = V at *
  have hI5 : ∀ z ∈ [r, -1, 0, 1114111, 1114112], In32 z := by simp [In32]; omega
  go_loopw [8, 29] (fun s t wr => ∃ (i k : Nat) (Z : List Int), t = .int .i64 (i : Int) ∧ i ≤ m ∧ wr.ownsRow w3.heap.size 3 1 s k (cellsJ Z) ∧ Z.length = k ∧ k ≤ 5 + 3 * i ∧ (∀ z ∈ Z, In32 z) ∧ Below w3.heap.size w3 wr) (fun _ t _ => m - (intOf t).toNat)
  case atStart => exact ⟨0, 5, [r, -1, 0, 1114111, 1114112], rfl, by omega, hown0, rfl, by omega, hI5, y4⟩
  case round =>
    obtain ⟨i, k, Z, rfl, hi0, hZ, hZl, hkl, hZin, hb⟩ := hrel
    have HZL := Lib.hid hZl
    clear hown0 b4 y4 hZl
    have hbw := below_step b3 hb
    obtain ⟨zA, zq, rfl⟩ := own_len' hZ
    by_cases hi : i < m
    · obtain ⟨gX, oX, rfl, hgX, c0, c1⟩ := (HR.out _ (below_step y3 hb)).at_ (i := i) (by rw [HM.out]; exact hi)
      obtain ⟨hx1, hx2, _⟩ := hcod.out i (by rw [HM.out]; exact hi)
      generalize X.getD i (0, 0) = p at *
      obtain ⟨x, y⟩ := p
      dsimp only at c0 c1 hx1 hx2
      have hlo := low_or x (by omega) (by omega)
      have hcl := low_clear x (by omega) (by omega)
      have hZ1 := (hZ.alloc (.cells #[.int .i64 x, .int .i64 (y : Int)] 31)).alloc (.cells #[.int .i64 x, .int .i64 (x - x % 256), .int .i64 (x - x % 256 + 255)] 3)
      have hnw := World.news_of_block (cs := #[.int .i64 x, .int .i64 (x - x % 256), .int .i64 (x - x % 256 + 255)]) (t := 3) (fr := (0, 0)) (heap_alloc_new (wr.alloc (.cells #[.int .i64 x, .int .i64 (y : Int)] 31)) (.cells #[.int .i64 x, .int .i64 (x - x % 256), .int .i64 (x - x % 256 + 255)] 3))
      rw [show (wr.alloc (.cells #[.int .i64 x, .int .i64 (y : Int)] 31)).heap.size = wr.heap.size + 1 by simp] at hnw
      have bb := below_step hb (below_step (below_new wr (.cells #[.int .i64 x, .int .i64 (y : Int)] 31)) (below_new _ (.cells #[.int .i64 x, .int .i64 (x - x % 256), .int .i64 (x - x % 256 + 255)] 3)))
      have hbs := bb.size
      have h63 : k + 3 ≤ maxLen := by unfold maxLen; omega
      have h8 : (k + 3) * 8 ≤ 140737488355328 := by omega
      go_wp2_with (at_builtin; refine wpList_append_own _ rfl (.tmp 33) (.tmp 42) 29 rfl w3.heap.size 3 i1 _ 1 8 Try.underlying29 hi1 ha0 ha1 ha2 rfl (by decide) (.slice zA k zq) k (cellsJ Z) rfl hZ1 ⟨wr.heap.size + 1, 0, none⟩ 3 3 [.int .i64 x, .int .i64 (x - x % 256), .int .i64 (x - x % 256 + 255)] rfl rfl hnw (by simp [Value.oneCell']) h63 h8 hbs ?_; intro v4 w4 hown4 hgrow4 _)
      go_roundw
      case rel =>
        refine ⟨i + 1, k + 3, Z ++ [x, x - x % 256, x - x % 256 + 255], by go_num, by omega, by rw [cellsJ_append]; exact hown4, by rw [List.length_append, HZL.out]; rfl, by omega, ?_, bb.grown hgrow4 hbs (fun kk h => (hZ1.lt kk h).1)⟩
        · intro z hz
          simp at hz
          rcases hz with hz | rfl | rfl | rfl
          · exact hZin z hz
          · exact ⟨hx1, hx2⟩
          · unfold In32; omega
          · unfold In32; omega
      case measure => simp [intOf]; omega
    · obtain rfl : i = m := by omega
      rw [← HZL.out] at hZ
      obtain ⟨zB, zr, hzz, hZc⟩ := own_ints hZ
      injection hzz with e1 e2 e3
      subst e1 e3
      clear e2 hZ
      have HZC := Lib.hid fun W (hb' : Below wr.heap.size wr W) j (hj : j < k) => (hZc j (by rw [HZL.out]; exact hj))
      have HZI := Lib.hid (show ∀ j, j < k → In32 (Z.getD j 0) from fun j hj => hZin _ (by rw [List.getD_eq_getElem?_getD, List.getElem?_eq_getElem (by rw [HZL.out]; exact hj)]; exact List.getElem_mem _))

      clear hZc hZin
      go_wp2
      go_loopw [47] (fun s wz => ∃ j : Nat, s = .int .i64 (j : Int) ∧ j ≤ k ∧ Below wr.heap.size wr wz) (fun s _ => k - (intOf s).toNat)
      case atStart => exact ⟨0, rfl, by omega, Below.refl _ _⟩
      case round =>
        obtain ⟨j, rfl, hj0, hbz⟩ := hrel
        by_cases hj : j < k
        · obtain ⟨gz, rfl, hgz, cz⟩ := HZC.out _ (Below.refl _ _) j hj
          obtain ⟨z1, z2⟩ := HZI.out j hj
          have cz := (hbz.cell (p := ⟨gz, j, none⟩) hgz).trans cz
          have HG1 := Lib.hid fun W hb' => HG.out (Z.getD j 0) z1 z2 W hb'
          have HR1 := Lib.hid fun W hb' => HRf.out (Z.getD j 0) (by omega) (by omega) W hb'
          have hsame : Hid ((getP (valAt X) (Z.getD j 0) : Int) = (refGet X (Z.getD j 0) : Int)) := Lib.hid rfl
          have hlt : getP (valAt X) (Z.getD j 0) < 65536 := by
            unfold getP
            split
            · omega
            · exact valAt_lt (fun x hx => (hok.out x hx).2.2) _
          generalize getP (valAt X) (Z.getD j 0) = va at *
          generalize refGet X (Z.getD j 0) = vb at *
          generalize Z.getD j 0 = z at *
          have bz := below_step hb hbz
          go_wp2_with fail
          with_reducible refine (HG1.out _ bz).mono ?_
          rintro e w5 ⟨rfl, y5⟩
          go_wp2_with fail
          with_reducible refine (HR1.out _ (below_step y3 (below_step bz y5))).mono ?_
          rintro e w6 ⟨rfl, y6⟩
          have hq : ((va : Int) == (vb : Int)) = true := by rw [hsame.out]; simp
          have hq2 : ((va : Int) != (vb : Int)) = false := by rw [hsame.out]; simp
          go_wp2
          go_roundw
          case rel => exact ⟨j + 1, by go_num, by omega, below_step hbz (below_step y5 y6)⟩
          case measure => simp [intOf]; omega
        · go_wp2
          go_ret
          exact ⟨rfl, below_step hbw hbz⟩
end Go.Proofs.Ytblakfpacommfaa
