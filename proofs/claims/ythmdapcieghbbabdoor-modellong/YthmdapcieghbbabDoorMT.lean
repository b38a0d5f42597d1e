/-
  Tables: a character's full decomposition (Full).
-/
import Derived.Test.YthmdapcieghbbabDoorMS
import Derived.Test.YthmdapcieghbbabDoorMI
import Derived.Maps.AppendAt
namespace Go.Proofs.YthmdapcieghbbabDoor
set_option linter.unusedVariables false
set_option maxRecDepth 20000
open Go.RowKit

theorem own_len' {w : World} {B : Nat} {e : TypeId} {s : Nat} {v : Value} {n : Nat} {xs : List Value} (h : w.ownsRow B e s v n xs) : ∃ A c, v = .slice A n c := by
  rcases h.2 with ⟨rfl, rfl⟩ | ⟨g, cap, cur, rfl, _⟩
  · exact ⟨_, _, rfl⟩
  · exact ⟨_, _, rfl⟩
theorem own_pop {w : World} {B g n c : Nat} {e : TypeId} {xs : List Value} (h : w.ownsRow B e 1 (.slice (some ⟨g, 0, none⟩) n c) n xs) (m : Nat) (hm : m ≤ n) : w.ownsRow B e 1 (.slice (some ⟨g, 0, none⟩) m c) m (xs.take m) := by
  obtain ⟨h1, h2⟩ := h
  rcases h2 with ⟨h2, _⟩ | ⟨g', cap, cur, hv, hg, hh, a1, a2, a3, a4⟩
  · cases h2
  · injection hv with hv1 _ hv3
    injection hv1 with hv1
    injection hv1 with hv1
    subst hv1 hv3
    refine ⟨by rw [List.length_take]; omega, .inr ⟨g, c, cur, rfl, hg, hh, by omega, a2, a3, ?_⟩⟩
    rw [← a4, List.take_take]
    congr 1
    omega
theorem lastD (l : List Int) : l.getLastD 0 = l.getD (l.length - 1) 0 := by
  simp [List.getLastD_eq_getLast?, List.getLast?_eq_getElem?, List.getD_eq_getElem?_getD]
theorem cellsI_take (l : List Int) (k : Nat) : cellsI (l.take k) = (cellsI l).take k := by simp [cellsI]
theorem dropLast_take (l : List Int) : l.dropLast = l.take (l.length - 1) := List.dropLast_eq_take

/-- Two rows of one's own lie apart. -/
def Apart (u v : Value) : Prop := ∀ k, u.ownBlock = some k → v.ownBlock ≠ some k

/-- A row of at most two, turned round: its block alone has turned. -/
theorem rev_any (u : Value) (l : List Int) (B : Nat) (w : World) (h : w.ownsRow B 21 1 u l.length (cellsI l)) (hl : l.length ≤ 2) (hn : l = [] → u = .slice none 0 0) :
    Calls Tryd.prog 19 #[u] w fun e w' => e = .returned (.tuple #[]) ∧ w'.ownsRow B 21 1 u l.length (cellsI l.reverse) ∧ w.grownBy w' u.ownBlock := by
  match l, hl, hn, h with
  | [], _, hn, h =>
    obtain rfl := hn rfl
    refine (rev_none w).mono ?_
    rintro e w' ⟨rfl, rfl⟩
    exact ⟨rfl, h, ⟨rfl, rfl, rfl, Nat.le_refl _, fun _ _ _ => rfl⟩⟩
  | [x], _, _, h =>
    obtain ⟨g, cap, rfl, _⟩ := own_cells h (by simp)
    refine (rev_few _ 1 cap w (by omega)).mono ?_
    rintro e w' ⟨rfl, rfl⟩
    exact ⟨rfl, h, ⟨rfl, rfl, rfl, Nat.le_refl _, fun _ _ _ => rfl⟩⟩
  | [x, y], _, _, h =>
    obtain ⟨h1, h2⟩ := h
    rcases h2 with ⟨_, h2⟩ | ⟨g, cap, cur, rfl, hg, hh, a1, a2, a3, a4⟩
    · simp at h2
    · have hB : Blk w g 21 cur := hh
      simp only [List.length_cons, List.length_nil, Nat.zero_add, Nat.mul_one] at a1 a4 h1
      have c0 : cur[0]? = some (.int .i32 x) := by
        have := congrArg (fun z => z[0]?) a4
        simpa [cellsI] using this
      have c1 : cur[1]? = some (.int .i32 y) := by
        have := congrArg (fun z => z[1]?) a4
        simpa [cellsI] using this
      refine (rev_two g cap x y w ((hB.cell 0).trans c0) ((hB.cell 1).trans c1) (hB.free 0) (hB.free 1)).mono ?_
      rintro e w' ⟨rfl, rfl⟩
      have hB2 := (hB.set_ 0 (.int .i32 y)).set_ 1 (.int .i32 x)
      refine ⟨rfl, ⟨rfl, .inr ⟨g, cap, _, rfl, hg, hB2, a1, a2, by simp [a3], ?_⟩⟩, ⟨rfl, rfl, rfl, by simp [World.setCell], fun k hk hne => ?_⟩⟩
      · have hs : 2 ≤ cur.size := by omega
        obtain ⟨l⟩ := cur
        match l, hs with
        | p :: q :: t, _ => simp [cellsI]
      · have hk : k ≠ g := fun e => hne (by rw [e]; rfl)
        have : ((w.setCell ⟨g, 0, none⟩ (.int .i32 y)).setCell ⟨g, 1, none⟩ (.int .i32 x)).heap[k]? = w.heap[k]? :=
          (Below.heap_setCell _ ⟨g, 1, none⟩ _ k (Ne.symm (Ne.symm hk))).trans (Below.heap_setCell _ ⟨g, 0, none⟩ _ k (Ne.symm (Ne.symm hk)))
        exact this

set_option maxHeartbeats 4000000 in
theorem full_any (A B : Option Addr) (q b r : Nat) (T : List Rw) (x : Int) (w : World) (ht : TabOk w A T) (hr : Rises T) (h2 : ∀ r ∈ T, r.map.length ≤ 2) (hx : In32 x) :
    Calls Tryd.prog 8 #[.agg #[.slice A T.length q, .slice B b r], .int .i32 x] w (fun e w' => ∃ u, e = .returned u ∧ w'.ownsRow w.heap.size 21 1 u ((fullC T x).getD []).length (cellsI ((fullC T x).getD [])) ∧ Below w.heap.size w w') := by
  have hfew := ht.few
  have HM := Lib.hid fun (y : Int) (hy : In32 y) W (hb : Below w.heap.size w W) => map_any A B q b r T y W (ht.below hb) hr hy
  have HM2 := Lib.hid fun (y : Int) => mapC_two h2 y
  have HMI := Lib.hid fun (y : Int) (hy : In32 y) => mapC_in ht.ok hy
  clear ht hr h2
  obtain ⟨res, hres⟩ : ∃ v, fullC T x = v := ⟨_, rfl⟩
  rw [hres]
  unfold fullC at hres
  have HRES := Lib.hid hres
  clear hres
  have hLK := Lib.hid fun W => looks_any A B T.length q b r W hfew
  obtain ⟨n, hn⟩ : ∃ n, T.length = n := ⟨_, rfl⟩
  rw [hn] at hfew HM HRES hLK ⊢
  clear hn
  have hX := Blk.new w 34 #[.slice A n q, .slice B b r]
  have bW := below_new w (.cells #[.slice A n q, .slice B b r] 34)
  have hX2 := hX.alloc (.cells #[.int .i32 x] 21)
  have bW2 := below_step bW (below_new _ (.cells #[.int .i32 x] 21))
  have hown := own_fresh (w.alloc (.cells #[.slice A n q, .slice B b r] 34)) w.heap.size 21 (cellsI [x]) bW.size 1 rfl (by decide)
  rw [show (w.alloc (.cells #[.slice A n q, .slice B b r] 34)).heap.size = w.heap.size + 1 by simp] at hown
  have hown' : ((w.alloc (.cells #[.slice A n q, .slice B b r] 34)).alloc (.cells #[.int .i32 x] 21)).ownsRow w.heap.size 21 1 (.slice (some ⟨w.heap.size + 1, 0, none⟩) 1 1) 1 (cellsI [x]) := hown
  have x0 := (hX2.cell 0).trans rfl
  have x1 := (hX2.cell 1).trans rfl
  have hl1 : 32 * (n + 3) + 1 ≤ 32000097 := by omega
  clear hown hX bW
  go_enter Tryd.func8, Tryd.ntmps8
  go_wp2_with fail
  generalize (w.alloc (.cells #[.slice A n q, .slice B b r] 34)).alloc (.cells #[.int .i32 x] 21) = V at *
  refine (hLK.out _).mono ?_
  rintro e w1 ⟨rfl, y1⟩
  have hX := hX2.on y1
  have hown := own_on hown' y1
  have b1 := below_step bW2 y1
  clear x0 x1 hX2 hown' bW2 y1 hLK
  generalize 32 * (n + 3) + 1 = lk at *
  go_wp2
  go_loopw [13, 5, 6] (fun s u v wr => ∃ (f : Nat) (full rest : List Int), s = .int .i64 (f : Int) ∧ f ≤ lk ∧ wr.ownsRow w.heap.size 21 1 u full.length (cellsI full) ∧ wr.ownsRow w.heap.size 21 1 v rest.length (cellsI rest) ∧ Apart u v ∧
      Blk wr w.heap.size 34 #[.slice A n q, .slice B b r] ∧ Below w.heap.size w wr ∧ fullLoop T (lk - f) full rest = res ∧ (∀ y ∈ rest, In32 y) ∧ full.length + rest.length ≤ 100) (fun s _ _ _ => lk - (intOf s).toNat)
  case atStart => exact ⟨0, [], [x], rfl, by omega, own_nil _ _ _, hown, fun k hk => by simp [Value.ownBlock] at hk, hX, b1, HRES.out, fun y hy => by simp at hy; subst hy; exact hx, by simp⟩
  case round =>
    obtain ⟨f, full, rest, rfl, hf0, hF, hR, hap, hX3, hb, hlp, hin, hsz⟩ := hrel
    clear hX hown b1 HRES
    obtain ⟨A5, c5, rfl⟩ := own_len' hF
    obtain ⟨A6, c6, rfl⟩ := own_len' hR
    by_cases hf : f < lk
    · obtain ⟨fu, hfu⟩ : ∃ fu, lk - f = fu + 1 := ⟨lk - f - 1, by omega⟩
      have hfu2 : lk - (f + 1) = fu := by omega
      rw [hfu] at hlp
      unfold fullLoop at hlp
      by_cases hre : rest = []
      · rw [if_pos hre] at hlp
        have hl0 : rest.length = 0 := by rw [hre]; rfl
        have hP := Lib.hid hlp
        clear hlp hre hfu hfu2
        generalize rest.length = rl at *
        generalize hfl : full.length = fl at *
        have HFL := Lib.hid hfl
        clear hfl
        subst hl0
        have hF := Lib.hid hF
        go_wp2
        go_ret
        refine ⟨_, rfl, ?_, hb⟩
        rw [← hP.out]
        show wr.ownsRow _ 21 1 _ full.length (cellsI full)
        rw [HFL.out]
        exact hF.out
      · rw [if_neg hre] at hlp
        have hrl : 0 < rest.length := List.length_pos_iff.2 hre
        by_cases hbig : full.length + rest.length > 32
        · rw [if_pos hbig] at hlp
          have hP := Lib.hid hlp
          clear hlp hre hfu hfu2 hin
          generalize rest.length = rl at *
          generalize full.length = fl at *
          have hbig' : ((fl : Int) + (rl : Int) > 32) := by omega
          go_wp2
          go_ret
          refine ⟨.slice none 0 0, rfl, ?_, hb⟩
          rw [← hP.out]
          exact own_nil _ _ _
        · rw [if_neg hbig, lastD, dropLast_take] at hlp
          obtain ⟨g6, cap6, hA6, hcap, hg1, hg2, hc⟩ := own_cells hR hrl
          injection hA6 with hA6 _ hcc
          subst hA6 hcc
          have c1 := (hc (rest.length - 1) (by omega)).trans (cellsI_get _ (by omega))
          have hpop := own_pop hR (rest.length - 1) (by omega)
          rw [← cellsI_take] at hpop
          have hin1 : In32 (rest.getD (rest.length - 1) 0) := hin _ (by
            rw [List.getD_eq_getElem?_getD, List.getElem?_eq_getElem (by omega)]
            exact List.getElem_mem _)
          have hin2 : ∀ y ∈ rest.take (rest.length - 1), In32 y := fun y hy => hin y (List.mem_of_mem_take hy)
          have htl : (rest.take (rest.length - 1)).length = rest.length - 1 := by rw [List.length_take]; omega
          generalize rest.getD (rest.length - 1) 0 = nx at *
          generalize rest.take (rest.length - 1) = rest' at *
          have hm2 := HM2.out nx
          have hmi := HMI.out nx hin1
          have HMx := Lib.hid fun W hb => HM.out nx hin1 W hb
          generalize mapC T nx = l8 at *
          obtain ⟨k, hk⟩ : ∃ k, rest.length = k + 1 := ⟨rest.length - 1, by omega⟩
          have hbig' : ¬ ((full.length : Int) + ((k + 1 : Nat) : Int) > 32) := by omega
          have hsz2 : full.length + k ≤ 31 := by omega
          rw [hk] at c1 hpop htl hcap hR
          rw [show k + 1 - 1 = k by omega] at c1 hpop htl
          rw [hk]
          clear hk hre hbig hc hrl hsz hin hin1
          obtain ⟨i0, hi0', hz0, hz1, hz2⟩ := info_parts rune_info
          have hlF := fun kk (h : (Value.slice A5 full.length c5).ownBlock = some kk) => (hF.lt kk h).2
          generalize hfl : full.length = fl at *
          have HFL := Lib.hid hfl
          clear hfl
          have hx0 := (hX3.cell 0).trans rfl
          have hx1 := (hX3.cell 1).trans rfl
          have hr1 : ((k + 1 : Nat) : Int) = (k : Int) + 1 := rfl
          clear hr1
          have HLP := Lib.hid hlp
          clear hlp
          go_wp2_with fail
          refine (HMx.out _ hb).mono ?_
          rintro e w2 ⟨u8, rfl, hu8, y2, hnil⟩
          clear c1 hx0 hx1
          have hX4 := hX3.on y2
          have b2 := below_step hb y2
          have hp2 := own_on hpop y2
          have hF2 := own_on hF y2
          have hs2 := y2.size
          have hbase := b2.size
          have hap6 : ∀ kk, (Value.slice A5 fl c5).ownBlock = some kk → g6 ≠ kk := fun kk h e => hap kk h (by rw [e]; rfl)
          by_cases hl8 : l8 = []
          · obtain rfl := hnil hl8
            have hP : fullLoop T fu (full ++ [nx]) rest' = res := by have := HLP.out; rw [if_pos hl8] at this; exact this
            have HPP := Lib.hid hP
            have h80 : l8.length = 0 := by rw [hl8]; rfl
            clear hP HLP hnil hu8 hm2 hmi
            have hF3 := hF2.alloc (.cells #[.int .i32 nx] 21)
            have hp3 := hp2.alloc (.cells #[.int .i32 nx] 21)
            have h63 : fl + 1 ≤ maxLen := by unfold maxLen; omega
            have hby : (fl + 1) * 4 ≤ 140737488355328 := by omega
            go_wp2_with (first
              | (at_builtin; refine wpList_append_lies _ rfl _ _ _ rfl w.heap.size 21 i0 _ 1 4 Tryd.underlying41 hi0' hz0 hz1 hz2 rfl (by omega) (.slice A5 fl c5) fl (cellsI full) rfl hF3 ⟨w2.heap.size, 0, none⟩ 1 1 [.int .i32 nx] rfl rfl (World.news_of_block (cs := #[.int .i32 nx]) (t := 21) (fr := (0, 0)) (heap_alloc_new w2 _)) (by simp [Value.oneCell']) (by omega) h63 hby (by simp; omega) (w2.heap.size + 1) (by simp) ?_; intro gg cap w3 hown3 hgrow hat hlt; have hp4 := own_grown hp3 hgrow (fun kk h e => by simp [Value.ownBlock] at h; exact hap6 _ e h))
              | ((with_reducible refine (rev_none _).mono ?_); rintro e w' ⟨rfl, rfl⟩)
              | (at_builtin; refine wpList_append_own_none rfl _ _ 41 rfl w.heap.size 21 i0 1 Tryd.underlying41 hi0' _ k (cellsI rest') rfl (by assumption) rfl ?_))
            go_roundw
            case rel =>
              have hp4 := own_grown hp3 hgrow (fun kk h e => by simp [Value.ownBlock] at h; exact hap6 _ e h)
              have hb3 := (below_step b2 (below_new w2 (.cells #[.int .i32 nx] 21))).grown hgrow (by simp; omega) (fun kk h => (hF3.lt kk h).1)
              refine ⟨f + 1, full ++ [nx], rest', by go_num, by omega, ?_, ?_, fun kk hkk e => ?_, (hX4.alloc _).grown hgrow (own_ne hF3 (hX4.alloc _) (by decide)), hb3, by rw [hfu2]; exact HPP.out, hin2, ?_⟩
              · rw [List.length_append, cellsI_append, HFL.out]; exact hown3
              · rw [htl]; exact hp4
              · simp [Value.ownBlock] at hkk e
                subst hkk
                rcases hat with h | h
                · exact hap6 _ h e
                · omega
              · rw [List.length_append, HFL.out, htl]; simp; omega
            case measure => simp [intOf]; omega
          · have hP : fullLoop T fu full (rest' ++ l8.reverse) = res := by have := HLP.out; rw [if_neg hl8] at this; exact this
            have HPP := Lib.hid hP
            have h8p : 0 < l8.length := List.length_pos_iff.2 hl8
            clear hP HLP
            obtain ⟨g8, c8, rfl, hc8, hg8, hg8l, _⟩ := own_cells hu8 h8p
            have HRV := Lib.hid (rev_any _ l8 wr.heap.size w2 hu8 hm2 (fun h => absurd h hl8))
            have hnz : ((l8.length : Int) == 0) = false := by rw [beq_eq_false_iff_ne]; omega
            have hlr : l8.reverse.length = l8.length := List.length_reverse
            have HLR := Lib.hid hlr
            generalize hm8 : l8.length = m8 at *
            have HM8 := Lib.hid hm8
            clear hnil hm8 hl8 hlr
            go_wp2_with fail
            refine HRV.out.mono ?_
            rintro e w3 ⟨rfl, hu9, hgr9⟩
            have hg6 : g6 < wr.heap.size := (hpop.lt g6 (by simp [Value.ownBlock])).2
            have hp3 := own_grown hp2 hgr9 (fun kk h e => by simp [Value.ownBlock] at h e; omega)
            have hF3 := own_grown hF2 hgr9 (fun kk h e => by simp [Value.ownBlock] at e; have := hlF kk h; omega)
            have hX5 := hX4.grown hgr9 (own_ne hu8 hX4 (by decide))
            have hb3 := b2.grown hgr9 hbase (fun kk h => by simp [Value.ownBlock] at h; have := hb.size; omega)
            have hs3 := hgr9.size
            have h63 : k + m8 ≤ maxLen := by unfold maxLen; omega
            have hby : (k + m8) * 4 ≤ 140737488355328 := by omega
            have hcl : (cellsI l8.reverse).length = m8 * 1 := by rw [cellsI_length, HLR.out]; omega
            have hnews := hu9.cells (g := g8) rfl
            have hbase3 := hb3.size
            clear HRV hnz
            go_wp2_with (at_builtin; refine wpList_append_lies _ rfl _ _ _ rfl w.heap.size 21 i0 _ 1 4 Tryd.underlying41 hi0' hz0 hz1 hz2 rfl (by omega) (.slice (some ⟨g6, 0, none⟩) k c6) k (cellsI rest') rfl hp3 ⟨g8, 0, none⟩ m8 c8 (cellsI l8.reverse) rfl hcl hnews (cellsI_one _) h8p h63 hby hbase3 w3.heap.size rfl ?_; intro gg cap w4 hown4 hgrow hat hlt)
            go_roundw
            case rel =>
              have hF4 := own_grown hF3 hgrow (fun kk h e => by simp [Value.ownBlock] at e; exact hap6 kk h e)
              have hb4 := hb3.grown hgrow hbase3 (fun kk h => (hp3.lt kk h).1)
              refine ⟨f + 1, full, rest' ++ l8.reverse, by go_num, by omega, ?_, ?_, fun kk hkk e => ?_, hX5.grown hgrow (own_ne hp3 hX5 (by decide)), hb4, by rw [hfu2]; exact HPP.out, ?_, ?_⟩
              · rw [HFL.out]; exact hF4
              · rw [List.length_append, cellsI_append, HLR.out, htl]; exact hown4
              · simp [Value.ownBlock] at e
                subst e
                have h1 := hlF _ hkk
                rcases hat with h | h
                · simp [Value.ownBlock] at h; exact hap6 _ hkk h
                · omega
              · intro y hy
                simp at hy
                rcases hy with hy | hy
                · exact hin2 y hy
                · exact hmi y hy
              · rw [List.length_append, HFL.out, htl, HLR.out]; omega
            case measure => simp [intOf]; omega
    · have hP : Hid (none = res) := Lib.hid (by rw [← hlp, show lk - f = 0 by omega]; rfl)
      clear hlp
      generalize rest.length = rl at *
      generalize full.length = fl at *
      go_wp2
      go_ret
      refine ⟨.slice none 0 0, rfl, ?_, hb⟩
      rw [← hP.out]
      exact own_nil _ _ _
end Go.Proofs.YthmdapcieghbbabDoor
