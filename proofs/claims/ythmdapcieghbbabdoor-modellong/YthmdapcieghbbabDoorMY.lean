/-
  The law ModelLong.
-/
import Derived.Test.YthmdapcieghbbabDoorMX
import Derived.Test.YthmdapcieghbbabDoorTE
namespace Go.Proofs.YthmdapcieghbbabDoor
set_option linter.unusedVariables false
set_option maxRecDepth 20000
open Go.RowKit

/-- The document's chain, its mappings at these places. -/
def chRow (a : Nat → Nat) (j : Nat) : Rf := ⟨16384 + (j : Int), 0, some ⟨a j, 0, none⟩, 2, [16384 + (j : Int) + 1, 12288]⟩
def chR (a : Nat → Nat) (i : Nat) : List Rf := (List.range i).map (chRow a)
theorem chR_length (a : Nat → Nat) (i : Nat) : (chR a i).length = i := by simp [chR]
theorem chR_succ (a : Nat → Nat) (i : Nat) : chR a (i + 1) = chR a i ++ [chRow a i] := by simp [chR, List.range_succ]
theorem chR_upd (a : Nat → Nat) (i g : Nat) : chR (upd a i g) i = chR a i := by
  unfold chR
  refine List.map_congr_left fun j hj => ?_
  have : j < i := by simpa using hj
  unfold chRow
  rw [upd_other _ (by omega)]
/-- The cells of the document's rows. -/
def rfcells : List Rf → List Value
  | [] => []
  | r :: t => .int .i64 r.code :: .int .i64 r.cls :: r.slice :: rfcells t
theorem rfcells_append (T U : List Rf) : rfcells (T ++ U) = rfcells T ++ rfcells U := by
  induction T with
  | nil => rfl
  | cons r t ih => simp [rfcells, ih]
theorem rfcells_get : ∀ (T : List Rf) (i : Nat), i < T.length → (rfcells T)[i * 3]? = some (.int .i64 (T.getD i Rf.nil).code) ∧ (rfcells T)[i * 3 + 1]? = some (.int .i64 (T.getD i Rf.nil).cls) ∧ (rfcells T)[i * 3 + 2]? = some (T.getD i Rf.nil).slice
  | [], i, h => by simp at h
  | r :: t, 0, h => by simp [rfcells]
  | r :: t, i + 1, h => by
    obtain ⟨h1, h2, h3⟩ := rfcells_get t i (by simpa using h)
    have e : (i + 1) * 3 = i * 3 + 3 := by omega
    rw [e]
    simp only [rfcells, List.getD_cons_succ]
    exact ⟨by simpa using h1, by simpa using h2, by simpa using h3⟩
theorem ref_info : (Tryd.prog.info? 28).map (fun i => (i.zero, i.size, i.bytes)) = some (some (.agg #[.int .i64 0, .int .i64 0, .slice none 0 0]), 3, 40) := by kernel_rfl

theorem chain_ref {w : World} {B : Nat} {v : Value} {a : Nat → Nat} {n : Nat} (h : w.ownsRow B 28 3 v n (rfcells (chR a n))) (ha : ∀ j, j < n → Blk w (a j) 3 #[.int .i64 (16384 + (j : Int) + 1), .int .i64 12288]) (hn : n ≤ 60) :
    ∃ A q, v = .slice A n q ∧ RefAt w A (chR a n) := by
  obtain ⟨A, q, rfl⟩ := own_len' h
  refine ⟨A, q, rfl, fun hne => ?_, fun r hr => ?_, by rw [chR_length]; omega⟩
  · rcases h.2 with ⟨_, e⟩ | ⟨g, cap, cur, e, hg, hh, a1, a2, a3, a4⟩
    · subst e; exact absurd rfl hne
    · injection e with e _ _
      refine ⟨g, e, (show Blk w g 28 cur from hh).lt, fun i hi => ?_⟩
      rw [chR_length] at hi
      have hget : ∀ j, j < n * 3 → cur[j]? = (rfcells (chR a n))[j]? := fun j hj => by
        rw [← a4, List.getElem?_take, if_pos hj]
        simp
      obtain ⟨h1, h2, h3⟩ := rfcells_get (chR a n) i (by rw [chR_length]; exact hi)
      have hb : Blk w g 28 cur := hh
      exact ⟨(hb.cell _).trans ((hget _ (by omega)).trans h1), (hb.cell _).trans ((hget _ (by omega)).trans h2), (hb.cell _).trans ((hget _ (by omega)).trans h3)⟩
  · unfold chR at hr
    obtain ⟨j, hj, rfl⟩ := List.mem_map.1 hr
    have hj : j < n := by simpa using hj
    have hb := ha j hj
    refine ⟨fun _ => ⟨a j, rfl, hb.lt, fun i hi => ?_⟩, show In32 (16384 + (j : Int)) from ⟨by omega, by omega⟩, fun x hx => ?_, show (2 : Nat) ≤ 1000000 by decide⟩
    · match i, hi with
      | 0, _ => exact hb.cell 0
      | 1, _ => exact hb.cell 1
      | i + 2, hi => exact absurd (show i + 2 < 2 from hi) (by omega)
    · simp only [chRow, List.mem_cons, List.not_mem_nil, or_false] at hx
      unfold In32
      omega
theorem chain_strip {T : List Rw} {a : Nat → Nat} {n : Nat} (h : T.map (fun r => (r.code, r.cls, r.map)) = (chR a n).map (fun r => (r.code, r.cls, r.map))) : strip T = chain n := by
  have h2 : T.map (fun r => (r.code, r.cls, r.map)) = (chain n).map (fun r => (r.code, r.cls, r.map)) := by
    rw [h]
    unfold chR chain
    rw [List.map_map, List.map_map]
    rfl
  rw [strip_eq h2]
  unfold strip chain
  rw [List.map_map]
  rfl

set_option maxHeartbeats 4000000 in
theorem modelLong_walk (n k : Int) (w : World) (hH : Handle w) : Calls Tryd.prog 3 #[.int .i64 n, .int .i64 k] w (RetV (.bool true) w) := by
  have hAW := Lib.hid fun W => awake_any W
  obtain ⟨N, hN, hN1, hN2⟩ : ∃ N : Nat, max 1 (min n 60) = (N : Int) ∧ 1 ≤ N ∧ N ≤ 60 := ⟨(max 1 (min n 60)).toNat, by omega, by omega, by omega⟩
  obtain ⟨K, hK, hK2⟩ : ∃ K : Nat, max 0 (min k 59) = (K : Int) ∧ K ≤ 59 := ⟨(max 0 (min k 59)).toNat, by omega, by omega⟩
  obtain ⟨i0, hi0', hz0, hz1, hz2⟩ := info_parts ref_info
  go_enter Tryd.func3, Tryd.ntmps3
  go_wp2_with fail
  refine (hAW.out _).mono ?_
  rintro e w1 ⟨rfl, y1⟩
  have hO0 := Blk.new w1 26 #[.slice none 0 0, .slice none 0 0]
  have b0 := below_step y1 (below_new w1 (.cells #[.slice none 0 0, .slice none 0 0] 26))
  go_wp2
  have hg5 : w.heap.size ≤ w1.heap.size := y1.size
  generalize w1.alloc (.cells #[.slice none 0 0, .slice none 0 0] 26) = V at *
  generalize hgg : w1.heap.size = g5 at *
  clear hN hK hgg
  go_loopw [18] (fun s wr => ∃ (i : Nat) (v : Value) (a : Nat → Nat), s = .int .i64 (i : Int) ∧ i ≤ N ∧ wr.ownsRow w.heap.size 28 3 v i (rfcells (chR a i)) ∧ (∀ j, j < i → Blk wr (a j) 3 #[.int .i64 (16384 + (j : Int) + 1), .int .i64 12288]) ∧ Blk wr g5 26 #[v, .slice none 0 0] ∧ Below w.heap.size w wr) (fun s _ => N - (intOf s).toNat)
  case atStart => exact ⟨0, _, fun _ => 0, rfl, by omega, World.ownsRow_nil _ _ _ _, fun j hj => absurd hj (Nat.not_lt_zero _), hO0, b0⟩
  case round =>
    obtain ⟨i, v, a, rfl, hi0, hv, ha, hO, hb⟩ := hrel
    clear hO0 b0
    by_cases hi : i < N
    · obtain ⟨vA, vc, rfl⟩ := own_len' hv
      have o0 := (hO.cell 0).trans rfl
      have hM := (Blk.new wr 3 #[.int .i64 (16384 + (i : Int) + 1), .int .i64 12288])
      have hM2 := hM.alloc (.cells #[.int .i64 (16384 + (i : Int)), .int .i64 0, .slice (some ⟨wr.heap.size, 0, none⟩) 2 2] 28)
      have hO2 := (hO.alloc (.cells #[.int .i64 (16384 + (i : Int) + 1), .int .i64 12288] 3)).alloc (.cells #[.int .i64 (16384 + (i : Int)), .int .i64 0, .slice (some ⟨wr.heap.size, 0, none⟩) 2 2] 28)
      have hv2 := (hv.alloc (.cells #[.int .i64 (16384 + (i : Int) + 1), .int .i64 12288] 3)).alloc (.cells #[.int .i64 (16384 + (i : Int)), .int .i64 0, .slice (some ⟨wr.heap.size, 0, none⟩) 2 2] 28)
      have ha2 := fun j hj => ((ha j hj).alloc (.cells #[.int .i64 (16384 + (i : Int) + 1), .int .i64 12288] 3)).alloc (.cells #[.int .i64 (16384 + (i : Int)), .int .i64 0, .slice (some ⟨wr.heap.size, 0, none⟩) 2 2] 28)
      have hb2 := below_step hb (below_step (below_new wr (.cells #[.int .i64 (16384 + (i : Int) + 1), .int .i64 12288] 3)) (below_new _ (.cells #[.int .i64 (16384 + (i : Int)), .int .i64 0, .slice (some ⟨wr.heap.size, 0, none⟩) 2 2] 28)))
      have hnews := World.news_of_block (cs := #[.int .i64 (16384 + (i : Int)), .int .i64 0, .slice (some ⟨wr.heap.size, 0, none⟩) 2 2]) (t := 28) (fr := (0, 0)) (blk_two wr (.cells #[.int .i64 (16384 + (i : Int) + 1), .int .i64 12288] 3) 28 #[.int .i64 (16384 + (i : Int)), .int .i64 0, .slice (some ⟨wr.heap.size, 0, none⟩) 2 2])
      have h63 : i + 1 ≤ maxLen := by unfold maxLen; omega
      have hby : (i + 1) * 40 ≤ 140737488355328 := by omega
      have hbase := hb.size
      go_wp2_with (at_builtin; refine wpList_append_lies _ rfl _ _ _ rfl w.heap.size 28 i0 _ 3 40 Tryd.underlying23 hi0' hz0 hz1 hz2 rfl (by omega) (.slice vA i vc) i (rfcells (chR a i)) rfl hv2 ⟨wr.heap.size + 1, 0, none⟩ 1 1 [.int .i64 (16384 + (i : Int)), .int .i64 0, .slice (some ⟨wr.heap.size, 0, none⟩) 2 2] rfl rfl hnews (by simp [Value.oneCell']) (by omega) h63 hby hb2.size (wr.heap.size + 1 + 1) (by simp) ?_; intro gg cap w3 hown3 hgrow hat hlt; have hO3 := hO2.grown hgrow (own_ne hv2 hO2 (by decide)); have k1 := (hO3.cell 0).trans rfl; have k2 := hO3.free 0)
      go_roundw
      case rel =>
        have hb3 := hb2.grown hgrow hb2.size (fun kk h => (hv2.lt kk h).1)
        have hM3 := hM2.grown hgrow (own_ne hv2 hM2 (by decide))
        have ha3 := fun j hj => (ha2 j hj).grown hgrow (own_ne hv2 (ha2 j hj) (by decide))
        refine ⟨i + 1, _, upd a i wr.heap.size, by go_num, by omega, ?_, fun j hj => ?_, hO3.set_ 0 _, hb3.setCell (p := ⟨g5, 0, none⟩) hg5 _⟩
        · rw [chR_succ, chR_upd, rfcells_append]
          have e : rfcells [chRow (upd a i wr.heap.size) i] = [.int .i64 (16384 + (i : Int)), .int .i64 0, .slice (some ⟨wr.heap.size, 0, none⟩) 2 2] := by
            unfold chRow
            rw [upd_same]
            rfl
          rw [e]
          exact ownsRow_setCell_other hown3 (own_ne hown3 hO3 (by decide)) _
        · by_cases hji : j = i
          · subst hji
            rw [upd_same]
            exact hM3.far (hM3.ne_ hO3 (by decide)) _
          · rw [upd_other _ hji]
            exact (ha3 j (by omega)).far ((ha3 j (by omega)).ne_ hO3 (by decide)) _
      case measure => simp [intOf]; omega
    · obtain rfl : i = N := by omega
      obtain ⟨tA, tc, rfl, hRef⟩ := chain_ref hv ha hN2
      have hOW := own_any tA none tc 0 (chR a i) [] (fun _ => false) wr hRef (fun h => absurd rfl h) (fun x hx => by simp at hx) (by simp) (fun W u _ hu => by
        obtain rfl := hu rfl
        refine (chars_none W).mono ?_
        rintro e w' ⟨rfl, y⟩
        exact ⟨none, 0, 0, rfl, fun W' _ => hasAt_none W', y⟩)
      rw [chR_length] at hOW
      have HOW := Lib.hid hOW
      have o0 := (hO.cell 0).trans rfl
      have o1 := (hO.cell 1).trans rfl
      clear hOW hRef ha hv
      go_wp2_with fail
      refine HOW.out.mono ?_
      rintro e w2 ⟨A, q, T, B, b, r, rfl, hT, hE, hTm, y2⟩
      have hst := chain_strip hTm
      have hTl : T.length = i := by
        have := congrArg List.length hTm
        simpa [chR] using this
      clear o0 o1 hTm
      have hX := Blk.new w2 34 #[.slice A T.length q, .slice B b r]
      have b3 := below_step hb (below_step y2 (below_new w2 (.cells #[.slice A T.length q, .slice B b r] 34)))
      have hT3 := hT.below (below_new w2 (.cells #[.slice A T.length q, .slice B b r] 34))
      have hE3 := hE.below (below_new w2 (.cells #[.slice A T.length q, .slice B b r] 34))
      have HCK := check_any A B q b r T (fun _ => false) _ hT3 hE3
      rw [← checkC_strip, hst, chain_check i (by omega)] at HCK
      have hx0 := (hX.cell 0).trans rfl
      have hx1 := (hX.cell 1).trans rfl
      have bX := below_new w2 (.cells #[.slice A T.length q, .slice B b r] 34)
      clear hE hT
      by_cases h32 : i < 32
      · rw [if_pos h32] at HCK
        have HCN := Lib.hid (HCK.mono (R' := RetV .nilIface (w2.alloc (.cells #[.slice A T.length q, .slice B b r] 34))) fun e w' h => by
          obtain ⟨h1, h2⟩ := h
          rw [if_pos rfl] at h1
          exact ⟨h1, h2⟩)
        have hpass : wrongRowC T (-1) = 0 := by rw [← wrongRowC_strip, hst]; exact chain_rows i (by omega)
        obtain ⟨hp1, hp2, _⟩ := passed_rises hpass
        obtain ⟨M, hM, hMi⟩ : ∃ M : Nat, min (K : Int) ((i : Int) - 1) = (M : Int) ∧ M < i := ⟨(min (K : Int) ((i : Int) - 1)).toNat, by omega, by omega⟩
        have HFU := Lib.hid fun W (hb : Below (w2.alloc (.cells #[.slice A T.length q, .slice B b r] 34)).heap.size (w2.alloc (.cells #[.slice A T.length q, .slice B b r] 34)) W) => full_any A B q b r T (16384 + (M : Int)) W (hT3.below hb) hp1 hp2 ⟨by omega, by omega⟩
        have hlen : ((fullC T (16384 + (M : Int))).getD []).length = i - M + 1 := by rw [← fullC_strip, hst]; exact chain_full i M h32 hMi
        have hwr : IntKind.i32.wrap (16384 + (M : Int)) = 16384 + (M : Int) := by rw [IntKind.wrap_i32]; omega
        have h33 : ¬ ((i : Int) + 1 > 32) := by omega
        have hq : (((i - M + 1 : Nat) : Int) == (i : Int) - (M : Int) + 1) = true := by rw [beq_iff_eq]; omega
        rw [hlen] at HFU
        clear hpass hst hp1 hp2 hlen hT3 hE3
        generalize T.length = tl at *
        obtain rfl : i = tl := hTl.symm
        clear HCK
        have HZ : ∀ W, Below (w2.alloc (.cells #[.slice A i q, .slice B b r] 34)).heap.size (w2.alloc (.cells #[.slice A i q, .slice B b r] 34)) W → W.cell? ⟨w2.heap.size, 0, none⟩ = some (.slice A i q) ∧ W.cell? ⟨w2.heap.size, 1, none⟩ = some (.slice B b r) := fun W h => ⟨((hX.on h).cell 0).trans rfl, ((hX.on h).cell 1).trans rfl⟩
        generalize hL : i - M + 1 = L at *
        clear hL
        go_wp2_with (first
          | ((with_reducible refine HCN.out.mono ?_); rintro e w3 ⟨rfl, y3⟩; obtain ⟨_, _⟩ := HZ _ y3)
          | ((with_reducible refine (HFU.out _ (by assumption)).mono ?_); rintro e w4 ⟨u, rfl, hu, y4⟩; obtain ⟨uA, uc, rfl⟩ := own_len' hu; clear hu))
        go_ret
        exact ⟨rfl, below_step b3 (below_step y3 y4)⟩
      · rw [if_neg h32] at HCK
        have HCF := Lib.hid (HCK.mono (R' := fun e w' => ∃ g, e = .returned (.iface 51 (.pointer (some ⟨g, 0, none⟩))) ∧ Blk w' g 55 #[.int .i64 8, .int .i64 0, noteV 4, .nilIface] ∧ Below (w2.alloc (.cells #[.slice A T.length q, .slice B b r] 34)).heap.size (w2.alloc (.cells #[.slice A T.length q, .slice B b r] 34)) w') fun e w' h => by
          obtain ⟨h1, h2⟩ := h
          rw [if_neg (by decide)] at h1
          obtain ⟨g, h3, h4, _⟩ := h1
          exact ⟨g, h3, h4, h2⟩)
        clear HCK
        have hH3 := hH.kept b3
        have h33 : (i : Int) + 1 > 32 := by omega
        clear hst hT3 hE3
        generalize T.length = tl at *
        obtain rfl : i = tl := hTl.symm
        go_wp2_with (first
          | ((with_reducible refine HCF.out.mono ?_); rintro e w3 ⟨g, rfl, hG, y3⟩; have HCO := Lib.hid (code_fault g _ _ _ _ w3 (hH3.kept y3) hG))
          | ((with_reducible refine HCO.out.mono ?_); rintro e w4 ⟨rfl, y4⟩))
        go_ret
        exact ⟨rfl, below_step b3 (below_step y3 (by assumption))⟩
end Go.Proofs.YthmdapcieghbbabDoor
