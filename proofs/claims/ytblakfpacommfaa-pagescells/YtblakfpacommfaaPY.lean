/-
  pages: the document's Blocks.
-/
import Derived.Test.YtblakfpacommfaaPX
namespace Go.Proofs.Ytblakfpacommfaa
set_option linter.unusedVariables false
set_option maxRecDepth 20000
open Go.RowKit

theorem info22 : (Try.prog.info? 22).map (fun i => (i.zero, i.size, i.bytes)) = some (some (.slice none 0 0), 1, 24) := by kernel_rfl
theorem refs_of {w : World} {B : Nat} {v : Value} {L : List (Int × Nat)} (h : w.ownsRow B 31 2 v L.length (rfC L)) : ∃ A c, v = .slice A L.length c ∧ RefsAt w A L := own_refs h
/-- It answers as many blocks as are unlike. -/
def RetBn (l : List (Int × Nat)) (w : World) (e : Ending) (w' : World) : Prop := ∃ n K W, e = .returned (.int .i64 (n : Nat)) ∧ PagesOf (valAt l) n K W ∧ Below w.heap.size w w'
def spL (F : List (Nat → Nat)) : List (List (Int × Nat)) := F.map fun f => cellsZ f 256
theorem spL_length (F : List (Nat → Nat)) : (spL F).length = F.length := by simp [spL]
theorem spL_at {F : List (Nat → Nat)} {j : Nat} (h : j < F.length) : (spL F).getD j [] = cellsZ (nth F j) 256 := by
  unfold spL nth
  rw [List.getD_eq_getElem?_getD, List.getElem?_map, List.getD_eq_getElem?_getD, List.getElem?_eq_getElem h]
  rfl
theorem spL_more (F : List (Nat → Nat)) (f : Nat → Nat) : spL (F ++ [f]) = spL F ++ [cellsZ f 256] := by simp [spL]

theorem own_slices {w : World} {B : Nat} {v : Value} {n : Nat} {vs : List Value} (h : w.ownsRow B 22 1 v n vs) (hn : 0 < n) : ∃ g cap, v = .slice (some ⟨g, 0, none⟩) n cap ∧ g < w.heap.size ∧ ∀ j, j < n → w.cell? ⟨g, j, none⟩ = some (vs.getD j undef) := by
  rcases h.2 with ⟨rfl, h0⟩ | ⟨g, cap, cur, rfl, hB, hh, hnc, _⟩
  · omega
  · refine ⟨g, cap, rfl, (Array.getElem?_eq_some_iff.1 hh).1, fun j hj => ?_⟩
    have hl : j < vs.length := by rw [h.1]; omega
    have c1 := h.cells (g := g) rfl j (vs.getD j undef) (by simp [List.getD, hl])
    rw [add_zero_block] at c1
    exact c1
set_option maxHeartbeats 4000000 in
theorem refBlocks_any (A : Option Addr) (q : Nat) (l : List (Int × Nat)) (w : World) (ht : RefsAt w A l) (hn : l.length ≤ 1000) (hv : ∀ x ∈ l, -2147483648 ≤ x.1 ∧ x.1 ≤ 2147483647 ∧ x.2 < 65536) :
    Calls Try.prog 13 #[.slice A l.length q] w (RetBn l w) := by
  obtain ⟨i1, hi1, hj0, hj1, hj2⟩ := info_parts info22
  have HT := Lib.hid fun W (hb : Below w.heap.size w W) => ht.below hb
  have HBK := Lib.hid fun (a : Nat) (ha : a < 4352) W (hb : Below w.heap.size w W) => block_any A q l a W (ht.below hb) (by omega) ha (fun x hx => (hv x hx).2.2)
  have HOK : Hid (∀ i, i < l.length → -2147483648 ≤ (l.getD i (0, 0)).1 ∧ (l.getD i (0, 0)).1 ≤ 2147483647) := Lib.hid fun i hi => by
    have := hv _ (show l.getD i (0, 0) ∈ l by rw [getD_of' hi]; exact List.getElem_mem hi)
    exact ⟨this.1, this.2.1⟩
  clear ht hv
  have hdone := Lib.hid fun F h => Bl.done (l := l) (F := F) h
  obtain ⟨n, hn'⟩ : ∃ n, l.length = n := ⟨_, rfl⟩
  rw [hn'] at hn HBK ⊢
  have HN := Lib.hid hn'
  clear hn'
  have ho1 := World.ownsRow_lit (base := w.heap.size) (e := 31) (size := 2) w #[] 0 (Nat.le_refl _) (by decide) rfl
  have ho2 := World.ownsRow_lit (base := w.heap.size) (e := 22) (size := 1) (w.alloc (.cells #[] 31)) #[.slice (some ⟨w.heap.size, 0, none⟩) 0 0] 1 (by simp) (by decide) rfl
  rw [show (w.alloc (.cells #[] 31)).heap.size = w.heap.size + 1 by simp] at ho2
  have hrows : Rows ((w.alloc (.cells #[] 31)).alloc (.cells #[.slice (some ⟨w.heap.size, 0, none⟩) 0 0] 22)) w.heap.size [.slice (some ⟨w.heap.size, 0, none⟩) 0 0] (spL [fun _ => 0]) := by
    have e : spL [fun _ => 0] = [[]] := by
      unfold spL
      have : cellsZ (fun _ => 0) 256 = [] := by
        rcases Classical.em (cellsZ (fun _ => 0) 256 = []) with h | h
        · exact h
        · obtain ⟨p, hp⟩ := List.exists_mem_of_ne_nil _ h
          obtain ⟨_, _, h3, h4⟩ := (cellsZ_mem _ _ p).1 hp
          exact absurd h3 h4
      simp [this]
    rw [e]
    refine ⟨rfl, fun j hj => ?_⟩
    have : j = 0 := by simpa using hj
    subst this
    exact ho1.alloc _
  have bV := below_step (below_new w (.cells #[] 31)) (below_new _ (.cells #[.slice (some ⟨w.heap.size, 0, none⟩) 0 0] 22))
  clear ho1
  go_enter Try.func13, Try.ntmps13
  go_wp2
  generalize (w.alloc (.cells #[] 31)).alloc (.cells #[.slice (some ⟨w.heap.size, 0, none⟩) 0 0] 22) = V at *
  go_loopw [14, 3] (fun s t wr => ∃ (i k : Nat) (F : List (Nat → Nat)) (vs : List Value), s = .int .i64 (i : Int) ∧ i ≤ n ∧ wr.ownsRow w.heap.size 22 1 t k vs ∧ F.length = k ∧ k ≤ i + 1 ∧ Rows wr w.heap.size vs (spL F) ∧ Bl l i F ∧ Below w.heap.size w wr) (fun s _ _ => n - (intOf s).toNat)
  case atStart => exact ⟨0, 1, [fun _ => 0], _, rfl, by omega, ho2, rfl, by omega, hrows, Bl.start l, bV⟩
  case round =>
    obtain ⟨i, k, F, vs, rfl, hi0, hu, hFk, hki, hR, hBl, hb⟩ := hrel
    have HFK := Lib.hid hFk
    clear hFk ho2 hrows bV
    obtain ⟨uA, uq, rfl⟩ := own_len' hu
    by_cases hi : i < n
    · obtain ⟨g, o, rfl, hg, c0, c1⟩ := (HT.out _ hb).at_ (i := i) (by rw [HN.out]; exact hi)
      obtain ⟨hx1, hx2⟩ := HOK.out i (by rw [HN.out]; exact hi)
      have hkp : 0 < k := by have := hBl.pos; rw [HFK.out] at this; exact this
      have hskip := Lib.hid fun h => hBl.skip (i := i) h
      have hold := Lib.hid fun j hj h => hBl.old (i := i) (j := j) hj h
      have hnew := Lib.hid fun a ha h2 h => hBl.new_ (i := i) (a := a) ha h2 h
      clear hBl
      have hp0 : Hid (∀ c y, l.getD i (0, 0) = (c, y) → (l.getD i (0, 0)).1 = c) := Lib.hid fun c y e => by rw [e]
      generalize hp : l.getD i (0, 0) = p at *
      obtain ⟨x, y⟩ := p
      dsimp only at c0 c1 hx1 hx2 hskip hold hnew
      clear hp0 hp
      have bY := below_new wr (.cells #[.int .i64 x, .int .i64 (y : Int)] 31)
      have hY := Blk.new wr 31 #[.int .i64 x, .int .i64 (y : Int)]
      by_cases hx : 0 ≤ x ∧ x ≤ 1114111
      · obtain ⟨c, rfl⟩ := Int.eq_ofNat_of_zero_le hx.1
        obtain ⟨a, ha⟩ : ∃ a, c / 256 = a := ⟨_, rfl⟩
        have ha' : (c : Int) / 256 = (a : Int) := by omega
        have ha2 : a < 4352 := by omega
        have hc1 : ¬ (c : Int) > 1114111 := by omega
        have hc2 : (c : Int) ≤ 1114111 := hx.2
        rw [Int.toNat_natCast, ha] at hold hnew
        have HBa := Lib.hid fun W hb => HBK.out a ha2 W hb
        clear hx ha hskip
        go_wp2_with fail
        with_reducible refine (HBa.out _ (below_step hb bY)).mono ?_
        rintro e w1 ⟨v1, rfl, hv1, y1⟩
        have b1 := below_step hb (below_step bY y1)
        have hu1 := (own_on (hu.alloc (.cells #[.int .i64 (c : Int), .int .i64 (y : Int)] 31)) y1)
        have hR1 := (hR.on bY).on y1
        have hv1' : w1.ownsRow w.heap.size 31 2 v1 (cellsZ (fun i => valAt l (a * 256 + i)) 256).length (rfC (cellsZ (fun i => valAt l (a * 256 + i)) 256)) := by
          refine ⟨hv1.1, ?_⟩
          rcases hv1.2 with h | ⟨g, cap, cur, h1, h2, h3⟩
          · exact .inl h
          · exact .inr ⟨g, cap, cur, h1, by have := hb.size; have := bY.size; omega, h3⟩
        have hLle := cellsZ_le (fun i => valAt l (a * 256 + i)) 256
        have hmatch : Hid (∀ j, j < k → ((spL F).getD j [] = cellsZ (fun i => valAt l (a * 256 + i)) 256 ↔ ∀ q, q < 256 → nth F j q = valAt l (a * 256 + q))) := Lib.hid fun j hj => by
          rw [spL_at (by rw [HFK.out]; exact hj)]
          exact ⟨fun h => cellsZ_inj h, fun h => cellsZ_congr 256 h⟩
        have hsm : Hid (spL (F ++ [fun q => valAt l (a * 256 + q)]) = spL F ++ [cellsZ (fun i => valAt l (a * 256 + i)) 256]) := Lib.hid (spL_more F _)
        have hspl : Hid ((spL F).length = k) := Lib.hid (by rw [spL_length, HFK.out])
        have hlens : Hid (∀ j, j < k → ((spL F).getD j []).length ≤ 256) := Lib.hid fun j hj => by
          rw [spL_at (by rw [HFK.out]; exact hj)]
          exact cellsZ_le _ _
        clear hv1 hu hR bY hY
        obtain ⟨vA, vq, rfl, hvR⟩ := own_refs hv1'
        have HVR := Lib.hid fun W (hb : Below w1.heap.size w1 W) => hvR.below hb
        clear hvR
        generalize hLb : cellsZ (fun i => valAt l (a * 256 + i)) 256 = Lb at *
        generalize hSP : spL F = SP at *
        have hSPe := Lib.hid hSP
        clear hLb hSP
        obtain ⟨lb, hlb⟩ : ∃ n, Lb.length = n := ⟨_, rfl⟩
        have HLB := Lib.hid hlb
        rw [hlb] at hLle hv1'
        go_wp2_with fail
        generalize wr = w0 at *
        have hkpos : 0 < k := hkp
        obtain ⟨gu, cu, hsu, hgu, hcu⟩ := own_slices hu1 hkpos
        injection hsu with e1 e2 e3
        subst e1 e3
        clear e2
        have HCU := Lib.hid hcu
        have HRO := Lib.hid fun j (hj : j < k) => own_refs (hR1.2 j (by rw [hspl.out]; exact hj))
        clear hcu
        go_loopw [33, 7] (fun s t wr => ∃ (j : Nat) (tb : Bool), s = .int .i64 (j : Int) ∧ t = .bool tb ∧ j ≤ k ∧ (tb = true ↔ ∃ q, q < j ∧ SP.getD q [] = Lb) ∧ Below w1.heap.size w1 wr) (fun s _ _ => k - (intOf s).toNat)
        case atStart => exact ⟨0, false, rfl, rfl, by omega, by simp, Below.refl _ _⟩
        case round =>
          obtain ⟨j, tb, rfl, rfl, hjk, htb, hbz⟩ := hrel
          by_cases hj : j < k
          · have hcj := (hbz.cell (p := ⟨gu, j, none⟩) hgu).trans (HCU.out j hj)
            obtain ⟨jA, jc, hjv, hjR⟩ := HRO.out j hj
            rw [hjv] at hcj
            have hnext : Hid ((∃ q, q < j + 1 ∧ SP.getD q [] = Lb) ↔ ((∃ q, q < j ∧ SP.getD q [] = Lb) ∨ SP.getD j [] = Lb)) := Lib.hid (by
              constructor
              · rintro ⟨q, h1, h2⟩
                by_cases e : q = j
                · subst e; exact .inr h2
                · exact .inl ⟨q, by omega, h2⟩
              · rintro (⟨q, h1, h2⟩ | h)
                · exact ⟨q, by omega, h2⟩
                · exact ⟨j, by omega, h⟩)
            have HTB := Lib.hid htb
            have hlj := hlens.out j hj
            have HAL0 := fun W (hb : Below w1.heap.size w1 W) => alike_any jA vA jc vq (SP.getD j []) Lb W (hjR.below hb) (HVR.out W hb) (by omega) (by rw [HLB.out]; omega)
            rw [HLB.out] at HAL0
            clear htb hjv hjR
            generalize SP.getD j [] = Lj at *
            obtain ⟨lj, hlj'⟩ : ∃ n, Lj.length = n := ⟨_, rfl⟩
            rw [hlj'] at hcj HAL0
            have HAL := Lib.hid HAL0
            clear HAL0 hlj' hlj
            cases tb with
            | true =>
              go_wp2
              go_roundw
              case rel => exact ⟨j + 1, true, by go_num, rfl, by omega, by rw [hnext.out, ← HTB.out]; simp, hbz⟩
              case measure => simp [intOf]; omega
            | false =>
              have hdd : Hid ((decide (Lj = Lb) = true) ↔ Lj = Lb) := Lib.hid (by simp)
              generalize hD : decide (Lj = Lb) = D at *
              go_wp2_with fail
              with_reducible refine (HAL.out _ hbz).mono ?_
              rintro e w4 ⟨rfl, y4⟩
              go_wp2
              go_roundw
              case rel => exact ⟨j + 1, D, by go_num, rfl, by omega, by rw [hnext.out, ← HTB.out, hdd.out]; simp, below_step hbz y4⟩
              case measure => simp [intOf]; omega
          · obtain rfl : j = k := by omega
            have huz := own_on hu1 hbz
            have hRz := hR1.on hbz
            have hvz := own_on hv1' hbz
            have bz := below_step b1 hbz
            cases tb with
            | true =>
              have hB2 : Hid (Bl l (i + 1) F) := Lib.hid (by
                obtain ⟨q, hq, e⟩ := htb.1 rfl
                exact hold.out q (by rw [HFK.out]; exact hq) ((hmatch.out q hq).1 e))
              clear htb
              go_wp2
              go_roundw
              case rel => exact ⟨i + 1, j, F, vs, by go_num, by omega, huz, HFK.out, by omega, by rw [hSPe.out]; exact hRz, hB2.out, bz⟩
              case measure => simp [intOf]; omega
            | false =>
              have hB2 : Hid (Bl l (i + 1) (F ++ [fun q => valAt l (a * 256 + q)])) := Lib.hid (hnew.out a rfl ha2 (fun q hq h => by
                rw [HFK.out] at hq
                have := htb.2 ⟨q, hq, (hmatch.out q hq).2 h⟩
                cases this))
              clear htb
              have hu3 := huz.alloc (.cells #[.slice vA lb vq] 22)
              have b3 := below_step bz (below_new wr (.cells #[.slice vA lb vq] 22))
              have hnw := World.news_of_block (cs := #[.slice vA lb vq]) (t := 22) (fr := (0, 0)) (heap_alloc_new wr (.cells #[.slice vA lb vq] 22))
              have h63 : j + 1 ≤ maxLen := by unfold maxLen; omega
              have h8 : (j + 1) * 24 ≤ 140737488355328 := by omega
              have hbs := b3.size
              have hR3 := hRz.on (below_new wr (.cells #[.slice vA lb vq] 22))
              have hv3 := hvz.alloc (.cells #[.slice vA lb vq] 22)
              go_wp2_with (at_builtin; refine wpList_append_own _ rfl (.tmp 46) (.tmp 48) 54 rfl w.heap.size 22 i1 _ 1 24 Try.underlying54 hi1 hj0 hj1 hj2 rfl (by decide) (.slice (some ⟨gu, 0, none⟩) j uq) j vs rfl hu3 ⟨wr.heap.size, 0, none⟩ 1 1 [.slice vA lb vq] rfl rfl hnw (by simp [Value.oneCell']) h63 h8 hbs ?_; intro v4 w4 hown4 hgrow4 _)
              go_roundw
              case rel =>
                refine ⟨i + 1, j + 1, F ++ [fun q => valAt l (a * 256 + q)], vs ++ [.slice vA lb vq], by go_num, by omega, hown4, by rw [List.length_append, HFK.out]; rfl, by omega, ?_, hB2.out, b3.grown hgrow4 hbs (fun kk h => (hu3.lt kk h).1)⟩
                rw [hsm.out]
                refine (hR3.grown hu3 (by decide) hgrow4).more ?_
                rw [HLB.out]
                exact own_grown hv3 hgrow4 fun k h1 e1 => own_two hv3 hu3 (by decide) k h1 e1
              case measure => simp [intOf]; omega
      · have hB2 := Lib.hid (hskip.out hx)
        have hR1 := hR.on bY
        have hu1 := hu.alloc (.cells #[.int .i64 x, .int .i64 (y : Int)] 31)
        have b1 := below_step hb bY
        by_cases hx0 : x < 0
        · go_wp2
          go_roundw
          case rel => exact ⟨i + 1, k, F, vs, by go_num, by omega, hu1, HFK.out, by omega, hR1, hB2.out, b1⟩
          case measure => simp [intOf]; omega
        · have hx1 : x > 1114111 := by omega
          go_wp2
          go_roundw
          case rel => exact ⟨i + 1, k, F, vs, by go_num, by omega, hu1, HFK.out, by omega, hR1, hB2.out, b1⟩
          case measure => simp [intOf]; omega
    · obtain rfl : i = n := by omega
      rw [← HN.out] at hBl
      obtain ⟨K, W, hP⟩ := hdone.out F hBl
      rw [HFK.out] at hP
      go_wp2
      go_ret
      exact ⟨k, K, W, rfl, hP, hb⟩
end Go.Proofs.Ytblakfpacommfaa
