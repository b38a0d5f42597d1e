/-
  The laws of cpset: CpsetChars' walk.
-/
import Derived.Test.YtccbofaefpbhlaaDoorLawG
import Derived.Test.YtccbofaefpbhlaaDoorSameA
import Derived.Test.YtccbofaefpbhlaaDoorPlaceM
import Derived.Test.YtccbofaefpbhlaaDoorLawD
namespace Go.Proofs.YtccbofaefpbhlaaDoor
set_option linter.unusedVariables false
set_option maxRecDepth 20000
open Go.RowKit

theorem RunIn.take {w : World} {A : Option Addr} {L : List Int} (h : RunIn w A L) (k : Nat) : RunIn w A (L.take k) := fun hn => by
  obtain ⟨ad, e, hl, hc⟩ := h (by intro e; simp [e] at hn)
  refine ⟨ad, e, hl, fun i hi => ?_⟩
  rw [List.length_take] at hi
  rw [hc i (by omega)]
  simp [List.getD, show i < k by omega]
/-- All blocks but one stay. -/
theorem but_grown {V w w' : World} {g : Nat} {ob : Option Nat} (h : V.grownBy w (some g)) (h2 : w.grownBy w' ob) (hb : ∀ k, ob = some k → V.heap.size ≤ k) : V.grownBy w' (some g) :=
  ⟨h2.os.trans h.os, h2.tape.trans h.tape, h2.output.trans h.output, Nat.le_trans h.size h2.size, fun k hk hne => (h2.block k (Nat.lt_of_lt_of_le hk h.size) (fun e => by have := hb k e.symm; omega)).trans (h.block k hk hne)⟩
theorem but_below {V w w' : World} {g : Nat} (h : V.grownBy w (some g)) (h2 : Below w.heap.size w w') : V.grownBy w' (some g) :=
  ⟨h2.os.trans h.os, h2.tape.trans h.tape, h2.output.trans h.output, Nat.le_trans h.size h2.size, fun k hk hne => (h2.block k (Nat.lt_of_lt_of_le hk h.size)).trans (h.block k hk hne)⟩
theorem but_set {V w : World} {g : Nat} (h : V.grownBy w (some g)) (i : Nat) (u : Value) : V.grownBy (w.setCell ⟨g, i, none⟩ u) (some g) :=
  ⟨h.os, h.tape, h.output, by simpa [World.setCell] using h.size, fun k hk hne => (Below.heap_setCell w ⟨g, i, none⟩ u k (fun e => hne (by rw [e]))).trans (h.block k hk hne)⟩
theorem below_but {B g : Nat} {w V w' : World} (h : Below B w V) (h2 : V.grownBy w' (some g)) (hg : B ≤ g) (hV : B ≤ V.heap.size) : Below B w w' :=
  ⟨h2.os.trans h.os, h2.tape.trans h.tape, h2.output.trans h.output, Nat.le_trans h.size h2.size, fun k hk => (h2.block k (by omega) (fun e => by injection e with e; omega)).trans (h.block k hk)⟩
theorem Blk.but {V w : World} {g g' : Nat} {t : TypeId} {cs : Array Value} (h : Blk V g' t cs) (h2 : V.grownBy w (some g)) (hne : g' ≠ g) : Blk w g' t cs := (h2.block g' h.lt (fun e => hne (by injection e))).trans h
theorem IsSet.but {V w : World} {g n c : Nat} {a : Option Addr} {v : Value} {S : List (Nat × Nat)} (h : IsSet V v S) (h2 : V.grownBy w (some g)) (hc : V.cell? ⟨g, 0, none⟩ = some (.slice a n c)) : IsSet w v S := by
  obtain ⟨A, cp, e, hs, hg⟩ := h
  refine ⟨A, cp, e, fun hne => ?_, hg⟩
  obtain ⟨g1, e1, hl, hcs⟩ := hs hne
  have hgb : g1 ≠ g := by
    rintro rfl
    have h0 := (hcs 0 (List.length_pos_iff.2 hne)).1
    rw [Nat.zero_mul, hc] at h0
    cases h0
  have hb := h2.block g1 hl (fun e => hgb (by injection e))
  have key : ∀ i, w.cell? ⟨g1, i, none⟩ = V.cell? ⟨g1, i, none⟩ := fun i => World.cell?_of_block hb
  exact ⟨g1, e1, Nat.lt_of_lt_of_le hl h2.size, fun i hi => ⟨(key _).trans (hcs i hi).1, (key _).trans (hcs i hi).2.1, (key _).trans (hcs i hi).2.2⟩⟩

/-- The runes as ranges of the laws. -/
def rngL (L : List Int) : List (Int × Int) := L.flatMap fun c => if 0 ≤ c ∧ c ≤ 1114111 then [(c, c)] else []
theorem rngL_snoc (L : List Int) (c : Int) : rngL (L ++ [c]) = rngL L ++ if 0 ≤ c ∧ c ≤ 1114111 then [(c, c)] else [] := by simp [rngL]
theorem rngL_take (L : List Int) (i : Nat) (hi : i < L.length) : rngL (L.take (i + 1)) = rngL (L.take i) ++ if 0 ≤ L.getD i 0 ∧ L.getD i 0 ≤ 1114111 then [(L.getD i 0, L.getD i 0)] else [] := by
  rw [List.take_succ_eq_append_getElem hi, rngL_snoc]
  simp [List.getD, hi]
theorem rngL_ok (L : List Int) : ∀ r ∈ rngL L, OkR r := by
  intro r hr
  simp only [rngL, List.mem_flatMap] at hr
  obtain ⟨c, _, hr⟩ := hr
  split at hr
  · simp at hr
    subst hr
    rename_i h
    exact ⟨h.1, h.2, Int.le_refl _⟩
  · simp at hr
theorem rngL_mem (L : List Int) (c : Nat) : inL L c = hasR (rngL L) (c : Int) := by
  rw [Bool.eq_iff_iff]
  simp only [inL, hasR, List.any_eq_true, Bool.and_eq_true, decide_eq_true_eq, rngL, List.mem_flatMap]
  constructor
  · rintro ⟨x, hx, h1, h2⟩
    subst h2
    have h3 := h1
    simp only [isI, decide_eq_true_eq] at h3
    exact ⟨((c : Int), (c : Int)), ⟨_, hx, by rw [if_pos (by omega)]; simp⟩, ⟨Int.le_refl _, Int.le_refl _⟩, h1⟩
  · rintro ⟨r, ⟨x, hx, hr⟩, ⟨h1, h2⟩, h3⟩
    split at hr
    · simp at hr
      subst hr
      simp only at h1 h2
      obtain rfl : x = (c : Int) := by omega
      exact ⟨_, hx, h3, rfl⟩
    · simp at hr
/-- The law's closure. -/
theorem hasG_any (A : Option Addr) (n c g : Nat) (L : List (Int × Int)) (w : World) (hX : w.cell? ⟨g, 0, none⟩ = some (.slice A n c)) (hL : L.length = n) (hr : PairAt w A L) (hn : n ≤ 1000000) (x : Int) : Calls Tryd.prog 44 (#[.int .i64 x] ++ #[.pointer (some ⟨g, 0, none⟩)]) w (RetV (.bool (hasR L x)) w) := by
  have H := Lib.hid (refHas_any A n c L x _ w hL hr hn rfl)
  generalize hasR L x = b at *
  clear hL hr
  go_enter Tryd.func44, Tryd.ntmps44
  go_wp2_with fail
  refine H.out.mono ?_
  rintro e w1 ⟨rfl, y1⟩
  go_wp2
  go_ret
  exact ⟨rfl, y1⟩
/-- Characters, as runes. -/
def natI (l : List Nat) : List Int := l.map fun x : Nat => (x : Int)
theorem natI_length (l : List Nat) : (natI l).length = l.length := by simp [natI]
theorem natI_get (l : List Nat) (j : Nat) : (natI l).getD j 0 = ((l.getD j 0 : Nat) : Int) := by
  by_cases h : j < l.length
  · simp [natI, List.getD, h]
  · simp [natI, List.getD, show l[j]? = none from List.getElem?_eq_none (by omega)]
theorem chars_in {S : List (Nat × Nat)} (hg : Good 0 S) (c : Nat) : inL (natI (charsS S)) c = memS S c := by
  rw [Bool.eq_iff_iff, ← charsS_mem S hg]
  simp only [inL, natI, List.any_map, List.any_eq_true, Function.comp, Bool.and_eq_true, decide_eq_true_eq]
  constructor
  · rintro ⟨x, hx, _, h⟩
    rw [← Int.ofNat_inj.1 h]
    exact hx
  · intro h
    have := hg.le ((charsS_mem S hg c).1 h)
    exact ⟨c, h, by simp only [isI, decide_eq_true_eq]; omega, rfl⟩
theorem len_of_sub : ∀ (l : List Int) (L : List Int), l.Nodup → (∀ x ∈ l, x ∈ L) → l.length ≤ L.length
  | [], L, _, _ => Nat.zero_le _
  | x :: l, L, hn, hs => by
    obtain ⟨h1, h2⟩ := List.nodup_cons.1 hn
    have hx := hs x (List.mem_cons_self ..)
    have := len_of_sub l (L.erase x) h2 (fun y hy => (List.mem_erase_of_ne (fun e => h1 (by rw [← e]; exact hy))).2 (hs y (List.mem_cons_of_mem _ hy)))
    rw [List.length_erase_of_mem hx] at this
    have := List.length_pos_of_mem hx
    rw [List.length_cons]; omega
theorem few_chars {S : List (Nat × Nat)} {L : List Int} (hg : Good 0 S) (h : ∀ c, memS S c = inL L c) : (charsS S).length ≤ L.length := by
  rw [← natI_length]
  refine len_of_sub _ L ?_ ?_
  · rw [natI, List.Nodup, List.pairwise_map]
    exact (charsS_rise S hg).imp (fun h e => by omega)
  · intro x hx
    simp only [natI, List.mem_map] at hx
    obtain ⟨c, hc, rfl⟩ := hx
    have h1 := h c
    rw [(charsS_mem S hg c).1 hc] at h1
    simp only [inL, Eq.comm (a := true), List.any_eq_true, Bool.and_eq_true, decide_eq_true_eq] at h1
    obtain ⟨y, hy, _, rfl⟩ := h1
    exact hy
theorem own_run {w : World} {B n : Nat} {u : Value} {l : List Nat} (h : w.ownsRow B 21 1 u n (cellsOf .i32 l)) (hl : l.length = n) : ∃ A c, u = .slice A n c ∧ RunIn w A (natI l) := by
  rcases h.2 with ⟨rfl, h0⟩ | ⟨g, cap, cur, rfl, _, hh, hnc, _⟩
  · have : l = [] := List.length_eq_zero_iff.1 (by omega)
    subst this
    exact ⟨none, 0, by rw [h0], fun hn => absurd rfl hn⟩
  · refine ⟨_, cap, rfl, fun _ => ⟨⟨g, 0, none⟩, rfl, (Array.getElem?_eq_some_iff.1 hh).1, fun i hi => ?_⟩⟩
    rw [natI_length] at hi
    have c1 := h.cells (g := g) rfl _ _ (cellsOf_get .i32 l hi)
    rw [c1]
    simp [natI, List.getD, hi]
/-- A set of what characters say, as numbers say it. -/
theorem memI_of {S : List (Nat × Nat)} {hb : Int → Bool} (h : ∀ c : Nat, memS S c = hb (c : Int)) (hi : ∀ x, hb x = true → isI x = true) (c : Int) : memI S c = hb c := by
  by_cases h0 : 0 ≤ c
  · obtain ⟨d, rfl⟩ := Int.eq_ofNat_of_zero_le h0
    rw [memI_nat, h]
  · have e1 : memI S c = false := by rw [memI, Bool.and_eq_false_iff]; exact .inl (by simpa using h0)
    rw [e1]
    cases hc : hb c with
    | false => rfl
    | true =>
      have := hi c hc
      simp only [isI, decide_eq_true_eq] at this
      omega

set_option maxHeartbeats 8000000 in
theorem charsLaw_small (A : Option Addr) (n c : Nat) (L : List Int) (w : World) (he : EnvR w) (hL : L.length = n) (hr : RunIn w A L) (h40 : n ≤ 40) (hnc : n ≤ c) (hn : n ≤ 9223372036854775807) : Calls Tryd.prog 6 #[.slice A n c] w (RetV (.bool true) w) := by
  obtain ⟨i0, hi0, hz0, hz1, hz2⟩ := info_parts pr_info
  have HAW := Lib.hid (awake_any w he)
  have CH := Lib.hid (fun W (hW : Below w.heap.size w W) => chars_any L A c W (hr.below hW) (by omega))
  rw [hL] at CH
  have HL := Lib.hid hL
  clear hL he
  go_enter Tryd.func6, Tryd.ntmps6
  go_wp2_with fail
  refine HAW.out.mono ?_
  rintro e w1 ⟨rfl, y1⟩
  clear HAW
  go_wp2_with fail
  refine (CH.out _ y1).mono ?_
  rintro e w3 ⟨v, S, rfl, hset, hmem, y3⟩
  have b3 := below_step y1 y3
  obtain ⟨ao, cp, rfl⟩ := hset.shape
  have hX3 := (Blk.new w3 29 #[.slice ao S.length cp]).alloc (.cells #[.slice none 0 0] 22)
  have hX4 := blk_two w3 (.cells #[.slice ao S.length cp] 29) 22 #[.slice none 0 0]
  have bV := below_step (below_step b3 (below_new w3 (.cells #[.slice ao S.length cp] 29))) (below_new _ (.cells #[.slice none 0 0] 22))
  have hsV := (hset.alloc (.cells #[.slice ao S.length cp] 29)).alloc (.cells #[.slice none 0 0] 22)
  have hszV : w3.heap.size + 1 < ((w3.alloc (.cells #[.slice ao S.length cp] 29)).alloc (.cells #[.slice none 0 0] 22)).heap.size := by simp
  have hw3 := b3.size
  have HMS := Lib.hid hmem
  clear hmem hset CH y1
  obtain ⟨V, hV⟩ : ∃ V, V = (w3.alloc (.cells #[.slice ao S.length cp] 29)).alloc (.cells #[.slice none 0 0] 22) := ⟨_, rfl⟩
  rw [← hV] at hX3 hX4 bV hsV hszV
  have HV := Lib.hid hV
  clear hV
  obtain ⟨g3, hg3⟩ : ∃ g3, g3 = w3.heap.size := ⟨_, rfl⟩
  obtain ⟨g4, hg4⟩ : ∃ g4, g4 = w3.heap.size + 1 := ⟨_, rfl⟩
  have hg34 : g3 ≠ g4 := by omega
  have hg4w : w.heap.size ≤ g4 := by omega
  rw [← hg3] at hX3
  rw [← hg4] at hX4 hszV
  have hbut0 : V.grownBy V (some g4) := ⟨rfl, rfl, rfl, Nat.le_refl _, fun _ _ _ => rfl⟩
  have hVw := bV.size
  have hcV := hX4.cell0
  have HG3 := Lib.hid hg3
  have HG4 := Lib.hid hg4
  clear hg3 hg4
  generalize hsl : S.length = sl at *
  have HSL := Lib.hid hsl
  clear hsl
  go_wp2_with fail
  rw [← HV.out, ← HG4.out, ← HG3.out]
  go_loopw [23] (fun t wr => ∃ (i k : Nat) (u : Value), i ≤ n ∧ t = .int .i64 (i : Int) ∧ Blk wr g4 22 #[u] ∧ wr.ownsRow V.heap.size 26 2 u k (prC (rngL (L.take i))) ∧ Hid ((rngL (L.take i)).length = k) ∧ k ≤ i ∧ V.grownBy wr (some g4)) (fun t _ => n - (intOf t).toNat)
  case atStart => exact ⟨0, 0, .slice none 0 0, by omega, rfl, hX4, World.ownsRow_nil _ _ _ _, rfl, by omega, hbut0⟩
  case round =>
    clear hbut0
    obtain ⟨i, k, u, hi, rfl, hB4, hown, HK, hki, hbut⟩ := hrel
    have hsz := hbut.size
    have hbw := below_but bV hbut hg4w hVw
    by_cases hil : i < n
    · obtain ⟨ad', e', hl, c1⟩ := (hr.below hbw).at_ (i := i) (by rw [HL.out]; exact hil)
      first | obtain rfl := e' | (injection e' with e'; subst e')
      have HT := Lib.hid (rngL_take L i (by rw [HL.out]; exact hil))
      generalize L.getD i 0 = x at *
      obtain ⟨ao4, cp4, rfl⟩ := own_form2 hown
      have k4 := hB4.cell0
      by_cases h1 : 0 ≤ x
      · have d1 : decide (0 ≤ x) = true := by simpa using h1
        by_cases h2 : x ≤ 1114111
        · have d2 : decide (x ≤ 1114111) = true := by simpa using h2
          have wx : IntKind.i64.wrap x = x := IntWalk.i64_in _ (by omega)
          have ho2 := hown.alloc (.cells #[.int .i64 x, .int .i64 x] 26)
          have hB42 := hB4.alloc (.cells #[.int .i64 x, .int .i64 x] 26)
          have hbut2 := but_below hbut (below_new wr (.cells #[.int .i64 x, .int .i64 x] 26))
          have HC2 := Lib.hid (cell_two_at wr 26 (.int .i64 x) (.int .i64 x))
          have HT2 : Hid (rngL (L.take (i + 1)) = rngL (L.take i) ++ [(x, x)]) := by rw [Hid, HT.out, if_pos ⟨h1, h2⟩]
          clear HT hB4
          go_wp2_with (at_builtin; refine wpList_append_own _ rfl (.tmp 33) (.tmp 39) 22 rfl V.heap.size 26 i0 (.agg #[.int .i64 0, .int .i64 0]) 2 16 Tryd.underlying22 hi0 hz0 hz1 hz2 rfl (by decide) _ k _ rfl ho2 ⟨wr.heap.size, 0, none⟩ 1 1 [.int .i64 x, .int .i64 x] rfl rfl HC2.out (by simp [Value.oneCell']) (by unfold maxLen; omega) (by omega) (by simp; omega) ?_; intro v' w4 hown4 hgrow _; have hbut4 := but_grown hbut2 hgrow (fun k hk => (ho2.lt k hk).1); have hB44 := blk_grown hB42 ho2 hgrow (by decide); have kk4 := hB44.cell0; have ff4 := hB44.free 0; obtain ⟨ao5, cp5, rfl⟩ := own_form2 hown4; have hoF := own_far (i := 0) hown4 hB44 (by decide) (.slice ao5 (k + 1) cp5); have hB45 := hB44.set0 (.slice ao5 (k + 1) cp5); have hbut5 := but_set hbut4 0 (.slice ao5 (k + 1) cp5); clear hgrow)
          go_roundw
          case rel => exact ⟨i + 1, k + 1, _, by omega, by go_num, hB45, by rw [HT2.out, prC_append]; exact hoF, by rw [Hid, HT2.out, List.length_append, HK.out]; rfl, by omega, hbut5⟩
          case measure => simp [intOf]; omega
        · have d2 : decide (x ≤ 1114111) = false := by simpa using h2
          have HT2 : Hid (rngL (L.take (i + 1)) = rngL (L.take i)) := by rw [Hid, HT.out, if_neg (by omega), List.append_nil]
          clear HT
          go_wp2
          go_roundw
          case rel => exact ⟨i + 1, k, _, by omega, by go_num, hB4, by rw [HT2.out]; exact hown, by rw [Hid, HT2.out, HK.out], by omega, hbut⟩
          case measure => simp [intOf]; omega
      · have d1 : decide (0 ≤ x) = false := by simpa using h1
        have HT2 : Hid (rngL (L.take (i + 1)) = rngL (L.take i)) := by rw [Hid, HT.out, if_neg (by omega), List.append_nil]
        clear HT
        go_wp2
        go_roundw
        case rel => exact ⟨i + 1, k, _, by omega, by go_num, hB4, by rw [HT2.out]; exact hown, by rw [Hid, HT2.out, HK.out], by omega, hbut⟩
        case measure => simp [intOf]; omega
    · rw [show i = L.length by rw [HL.out]; omega, List.take_length] at hown HK
      have hikk : i = n := by omega
      have hdd : decide ((i : Int) < (n : Nat)) = false := by simp; omega
      have hokR := rngL_ok L
      have HM0 : Hid (∀ c : Int, memI S c = hasR (rngL L) c) := fun c => memI_of (fun c => by rw [HMS.out, rngL_mem]) (hasR_isI _) c
      have hch := few_chars hsV.good HMS.out
      rw [HL.out] at hch
      generalize rngL L = R at *
      have hown' : wr.ownsRow V.heap.size 26 2 u R.length (prC R) := by rw [HK.out]; exact hown
      obtain ⟨A5, c5, hu, hpa, _⟩ := own_pairAt hown'
      rw [HK.out] at hu
      subst hu
      have hX3' := hX3.but hbut hg34
      have hs4 := hsV.but hbut hcV
      have HGS := Lib.hid hs4.good
      have k3 := hX3'.cell0
      have k4 := hB4.cell0
      have bwr := below_but bV hbut hg4w hVw
      have hMlen : (marksOf R).length ≤ 1000 := by
        have h1 := foldIns_len (allM R) []
        rw [allM_len, HK.out] at h1
        simp only [marksOf, List.length_nil] at h1 ⊢
        omega
      have MK : Hid (∀ W, Below wr.heap.size wr W → Calls Tryd.prog 20 #[.slice A5 k c5] W (RetIn (marksOf R) W)) := Lib.hid (fun W hW => marks_any A5 k c5 R W HK.out (hpa.below hW) hokR (by omega))
      have IS : Hid (∀ Am cm W, Below wr.heap.size wr W → IntAt W Am (marksOf R) → Calls Tryd.prog 19 #[.agg #[.slice ao sl cp], .slice Am (marksOf R).length cm, .func (.func 44) #[] #[.pointer (some ⟨g4, 0, none⟩)]] W (RetV (.bool true) W)) := Lib.hid (fun Am cm W hW hI =>
        setIs_any S _ (marksOf R) Am cm 44 #[.pointer (some ⟨g4, 0, none⟩)] (hasR R) W (hs4.below hW) hI (marks_ok R hokR) HM0.out hMlen (enters_of Tryd.func44 (by kernel_rfl) rfl)
          (fun W' hW' x => hasG_any A5 k c5 g4 R W' ((hB4.on hW).on hW').cell0 HK.out ((hpa.below hW).below hW') (by omega) x))
      have CO := Lib.hid (fun W (hW : Below wr.heap.size wr W) => charsOf_any S _ W (hs4.below hW))
      have CNT := Lib.hid (fun W (hW : Below wr.heap.size wr W) => count_any _ S W (hs4.below hW))
      rw [← charsS_length] at CNT
      have ATY := Lib.hid (fun W (hW : Below wr.heap.size wr W) i d h1 h2 => at_yes S _ i d W (hs4.below hW) h1 h2)
      have SAM := Lib.hid (fun W (hW : Below wr.heap.size wr W) v' S' (h1 : IsSet W v' S') (h2 : S' = S) => same_yes S v' _ W (h2 ▸ h1) (hs4.below hW))
      have CIN := Lib.hid (fun (S' : List (Nat × Nat)) (h1 : Good 0 S') (h2 : ∀ c, memS S' c = inL (natI (charsS S)) c) => Good.unique h1 HGS.out (fun c => by rw [h2 c, chars_in HGS.out]))
      have hX4' := hB4
      clear hown hown' hpa hs4 hbut hB4 hMlen hokR hX3 hX4 hsV hcV
      obtain ⟨mm, hmm⟩ : ∃ mm, (marksOf R).length = mm := ⟨_, rfl⟩
      have HMM := Lib.hid hmm
      rw [hmm] at IS
      clear hmm
      generalize charsS S = C at *
      go_wp2_with fail
      go_region_held3 (fun w' => w'.cell? ⟨g3, 0, none⟩ = some (.slice ao sl cp) ∧ w'.cell? ⟨g4, 0, none⟩ = some (.slice A5 k c5))
        (first | exact ⟨(hX3'.on (below_drew _)).cell0, (hX4'.on (below_drew _)).cell0⟩ | exact ⟨(hX3'.on hw1).cell0, (hX4'.on hw1).cell0⟩)
        (first
          | ((with_reducible refine (MK.out _ (below_drew _)).mono ?_); rintro e x1 ⟨um, rfl, hom, z1⟩; obtain ⟨Am, cm, rfl, hIm⟩ := own_intAt hom rfl; rw [HMM.out]; have hw1 : Below wr.heap.size wr x1 := below_step (below_drew _) z1)
          | ((with_reducible refine (IS.out _ _ _ hw1 hIm).mono ?_); rintro e x2 ⟨rfl, z2⟩; have hw1 : Below wr.heap.size wr x2 := below_step hw1 z2))
      all_goals
        have CO2 := Lib.hid (CO.out _ hw1)
        have k3' := (hX3'.on hw1).cell0
        clear CO MK IS
        go_wp2_with fail
        refine CO2.out.mono ?_
        rintro e w7 ⟨u7, rfl, hown7, y7⟩
        have b7 := below_step hw1 y7
        obtain ⟨A7, c7, rfl, hr7⟩ := own_run hown7 rfl
        clear hown7 CO2
        have CHS := Lib.hid (fun W (hW : Below w7.heap.size w7 W) => chars_any (natI C) A7 c7 W (hr7.below hW) (by rw [natI_length]; omega))
        rw [natI_length] at CHS
        obtain ⟨q, hq⟩ : ∃ q, C.length = q := ⟨_, rfl⟩
        rw [hq] at CNT ATY CHS hch ⊢
        have HQ := Lib.hid hq
        have hX7 := hX3'.on b7
        have k7 := hX7.cell0
        have bw7 := bwr.trans (b7.mono bwr.size)
        have CNT7 := Lib.hid (fun W (hW : Below w7.heap.size w7 W) => CNT.out W (b7.trans (hW.mono b7.size)))
        have ATY7 := Lib.hid (fun W (hW : Below w7.heap.size w7 W) => ATY.out W (b7.trans (hW.mono b7.size)))
        have SAM7 := Lib.hid (fun W (hW : Below w7.heap.size w7 W) => SAM.out W (b7.trans (hW.mono b7.size)))
        clear hq CNT ATY SAM hw1 hX3' hX4' hbw hsz k3 k4 k3' bwr hr
        go_wp2_with fail
        go_loopw [52] (fun t W => ∃ j : Nat, j ≤ q ∧ t = .int .i64 (j : Int) ∧ Below w7.heap.size w7 W) (fun t _ => q - (intOf t).toNat)
        case atStart => exact ⟨0, by omega, rfl, Below.refl _ _⟩
        case round =>
          obtain ⟨j, hj, rfl, hbW⟩ := hrel
          have hX9 := hX7.on hbW
          have k9 := hX9.cell0
          by_cases hjq : j < q
          · obtain ⟨ad7, e7, hl7, c17⟩ := (hr7.below hbW).at_ (i := j) (by rw [natI_length, HQ.out]; exact hjq)
            obtain rfl := e7
            obtain ⟨d, hd⟩ : ∃ d, C.getD j 0 = d := ⟨_, rfl⟩
            rw [natI_get, hd] at c17
            have AT := Lib.hid (ATY7.out _ hbW j d hjq hd)
            clear hd
            go_wp2_with fail
            refine AT.out.mono ?_
            rintro e W2 ⟨rfl, yW⟩
            have bW2 := below_step hbW yW
            have dd : ((d : Int) != (d : Int)) = false := by simp
            go_wp2
            go_roundw
            case rel => exact ⟨j + 1, by omega, by go_num, bW2⟩
            case measure => simp [intOf]; omega
          · obtain rfl : j = q := by omega
            have CNTF := Lib.hid (fun W (hW : Below wr.heap.size wr W) => CNT7.out W (hbW.trans (hW.mono hbW.size)))
            have CHSF := Lib.hid (fun W (hW : Below wr.heap.size wr W) => CHS.out W (hbW.trans (hW.mono hbW.size)))
            have SAMF := Lib.hid (fun W (hW : Below wr.heap.size wr W) => SAM7.out W (hbW.trans (hW.mono hbW.size)))
            have dq : decide ((j : Int) = (j : Int)) = true := by simp
            clear CNT7 CHS SAM7 ATY7 hX7 k7
            go_wp2_with fail
            go_region_held3 (fun w' => w'.cell? ⟨g3, 0, none⟩ = some (.slice ao sl cp))
              (first | exact (hX9.on (below_drew _)).cell0 | exact (hX9.on hw1).cell0)
              (first
                | ((with_reducible refine (CNTF.out _ (below_drew _)).mono ?_); rintro e x1 ⟨rfl, z1⟩; have hw1 : Below wr.heap.size wr x1 := below_step (below_drew _) z1)
                | ((with_reducible refine (CHSF.out _ hw1).mono ?_); rintro e x2 ⟨v2, S2, rfl, hset2, hm2, z2⟩; have e2 := CIN.out S2 hset2.good hm2; have hw1 : Below wr.heap.size wr x2 := below_step hw1 z2)
                | ((with_reducible refine (SAMF.out _ hw1 _ _ hset2 e2).mono ?_); rintro e x3 ⟨rfl, z3⟩; have hw1 : Below wr.heap.size wr x3 := below_step hw1 z3))
            all_goals
              go_wp2
              go_ret
              exact ⟨rfl, bw7.trans ((hbW.trans (hw1.mono hbW.size)).mono bw7.size)⟩

set_option maxHeartbeats 8000000 in
theorem charsLaw_big (ad : Addr) (n c : Nat) (L : List Int) (w : World) (he : EnvR w) (hL : L.length = 40) (hr : RunIn w (some ad) L) (h40 : 40 < n) (hnc : n ≤ c) (hn : n ≤ 9223372036854775807) : Calls Tryd.prog 6 #[.slice (some ad) n c] w (RetV (.bool true) w) := by
  obtain ⟨i0, hi0, hz0, hz1, hz2⟩ := info_parts pr_info
  have HAW := Lib.hid (awake_any w he)
  have CH := Lib.hid (fun W (hW : Below w.heap.size w W) => chars_any L (some ad) c W (hr.below hW) (by omega))
  rw [hL] at CH
  have HL := Lib.hid hL
  clear hL he
  go_enter Tryd.func6, Tryd.ntmps6
  go_wp2_with fail
  refine HAW.out.mono ?_
  rintro e w1 ⟨rfl, y1⟩
  clear HAW
  go_wp2_with fail
  refine (CH.out _ y1).mono ?_
  rintro e w3 ⟨v, S, rfl, hset, hmem, y3⟩
  have b3 := below_step y1 y3
  obtain ⟨ao, cp, rfl⟩ := hset.shape
  have hX3 := (Blk.new w3 29 #[.slice ao S.length cp]).alloc (.cells #[.slice none 0 0] 22)
  have hX4 := blk_two w3 (.cells #[.slice ao S.length cp] 29) 22 #[.slice none 0 0]
  have bV := below_step (below_step b3 (below_new w3 (.cells #[.slice ao S.length cp] 29))) (below_new _ (.cells #[.slice none 0 0] 22))
  have hsV := (hset.alloc (.cells #[.slice ao S.length cp] 29)).alloc (.cells #[.slice none 0 0] 22)
  have hszV : w3.heap.size + 1 < ((w3.alloc (.cells #[.slice ao S.length cp] 29)).alloc (.cells #[.slice none 0 0] 22)).heap.size := by simp
  have hw3 := b3.size
  have HMS := Lib.hid hmem
  clear hmem hset CH y1
  obtain ⟨V, hV⟩ : ∃ V, V = (w3.alloc (.cells #[.slice ao S.length cp] 29)).alloc (.cells #[.slice none 0 0] 22) := ⟨_, rfl⟩
  rw [← hV] at hX3 hX4 bV hsV hszV
  have HV := Lib.hid hV
  clear hV
  obtain ⟨g3, hg3⟩ : ∃ g3, g3 = w3.heap.size := ⟨_, rfl⟩
  obtain ⟨g4, hg4⟩ : ∃ g4, g4 = w3.heap.size + 1 := ⟨_, rfl⟩
  have hg34 : g3 ≠ g4 := by omega
  have hg4w : w.heap.size ≤ g4 := by omega
  rw [← hg3] at hX3
  rw [← hg4] at hX4 hszV
  have hbut0 : V.grownBy V (some g4) := ⟨rfl, rfl, rfl, Nat.le_refl _, fun _ _ _ => rfl⟩
  have hVw := bV.size
  have hcV := hX4.cell0
  have HG3 := Lib.hid hg3
  have HG4 := Lib.hid hg4
  clear hg3 hg4
  generalize hsl : S.length = sl at *
  have HSL := Lib.hid hsl
  clear hsl
  go_wp2_with fail
  rw [← HV.out, ← HG4.out, ← HG3.out]
  go_loopw [23] (fun t wr => ∃ (i k : Nat) (u : Value), i ≤ 40 ∧ t = .int .i64 (i : Int) ∧ Blk wr g4 22 #[u] ∧ wr.ownsRow V.heap.size 26 2 u k (prC (rngL (L.take i))) ∧ Hid ((rngL (L.take i)).length = k) ∧ k ≤ i ∧ V.grownBy wr (some g4)) (fun t _ => 40 - (intOf t).toNat)
  case atStart => exact ⟨0, 0, .slice none 0 0, by omega, rfl, hX4, World.ownsRow_nil _ _ _ _, rfl, by omega, hbut0⟩
  case round =>
    clear hbut0
    obtain ⟨i, k, u, hi, rfl, hB4, hown, HK, hki, hbut⟩ := hrel
    have hsz := hbut.size
    have hbw := below_but bV hbut hg4w hVw
    by_cases hil : i < 40
    · obtain ⟨ad', e', hl, c1⟩ := (hr.below hbw).at_ (i := i) (by rw [HL.out]; exact hil)
      first | obtain rfl := e' | (injection e' with e'; subst e')
      have HT := Lib.hid (rngL_take L i (by rw [HL.out]; exact hil))
      generalize L.getD i 0 = x at *
      obtain ⟨ao4, cp4, rfl⟩ := own_form2 hown
      have k4 := hB4.cell0
      by_cases h1 : 0 ≤ x
      · have d1 : decide (0 ≤ x) = true := by simpa using h1
        by_cases h2 : x ≤ 1114111
        · have d2 : decide (x ≤ 1114111) = true := by simpa using h2
          have wx : IntKind.i64.wrap x = x := IntWalk.i64_in _ (by omega)
          have ho2 := hown.alloc (.cells #[.int .i64 x, .int .i64 x] 26)
          have hB42 := hB4.alloc (.cells #[.int .i64 x, .int .i64 x] 26)
          have hbut2 := but_below hbut (below_new wr (.cells #[.int .i64 x, .int .i64 x] 26))
          have HC2 := Lib.hid (cell_two_at wr 26 (.int .i64 x) (.int .i64 x))
          have HT2 : Hid (rngL (L.take (i + 1)) = rngL (L.take i) ++ [(x, x)]) := by rw [Hid, HT.out, if_pos ⟨h1, h2⟩]
          clear HT hB4
          go_wp2_with (at_builtin; refine wpList_append_own _ rfl (.tmp 33) (.tmp 39) 22 rfl V.heap.size 26 i0 (.agg #[.int .i64 0, .int .i64 0]) 2 16 Tryd.underlying22 hi0 hz0 hz1 hz2 rfl (by decide) _ k _ rfl ho2 ⟨wr.heap.size, 0, none⟩ 1 1 [.int .i64 x, .int .i64 x] rfl rfl HC2.out (by simp [Value.oneCell']) (by unfold maxLen; omega) (by omega) (by simp; omega) ?_; intro v' w4 hown4 hgrow _; have hbut4 := but_grown hbut2 hgrow (fun k hk => (ho2.lt k hk).1); have hB44 := blk_grown hB42 ho2 hgrow (by decide); have kk4 := hB44.cell0; have ff4 := hB44.free 0; obtain ⟨ao5, cp5, rfl⟩ := own_form2 hown4; have hoF := own_far (i := 0) hown4 hB44 (by decide) (.slice ao5 (k + 1) cp5); have hB45 := hB44.set0 (.slice ao5 (k + 1) cp5); have hbut5 := but_set hbut4 0 (.slice ao5 (k + 1) cp5); clear hgrow)
          go_roundw
          case rel => exact ⟨i + 1, k + 1, _, by omega, by go_num, hB45, by rw [HT2.out, prC_append]; exact hoF, by rw [Hid, HT2.out, List.length_append, HK.out]; rfl, by omega, hbut5⟩
          case measure => simp [intOf]; omega
        · have d2 : decide (x ≤ 1114111) = false := by simpa using h2
          have HT2 : Hid (rngL (L.take (i + 1)) = rngL (L.take i)) := by rw [Hid, HT.out, if_neg (by omega), List.append_nil]
          clear HT
          go_wp2
          go_roundw
          case rel => exact ⟨i + 1, k, _, by omega, by go_num, hB4, by rw [HT2.out]; exact hown, by rw [Hid, HT2.out, HK.out], by omega, hbut⟩
          case measure => simp [intOf]; omega
      · have d1 : decide (0 ≤ x) = false := by simpa using h1
        have HT2 : Hid (rngL (L.take (i + 1)) = rngL (L.take i)) := by rw [Hid, HT.out, if_neg (by omega), List.append_nil]
        clear HT
        go_wp2
        go_roundw
        case rel => exact ⟨i + 1, k, _, by omega, by go_num, hB4, by rw [HT2.out]; exact hown, by rw [Hid, HT2.out, HK.out], by omega, hbut⟩
        case measure => simp [intOf]; omega
    · rw [show i = L.length by rw [HL.out]; omega, List.take_length] at hown HK
      have hikk : i = 40 := by omega
      have hdd : decide ((i : Int) < (40 : Nat)) = false := by simp; omega
      have hokR := rngL_ok L
      have HM0 : Hid (∀ c : Int, memI S c = hasR (rngL L) c) := fun c => memI_of (fun c => by rw [HMS.out, rngL_mem]) (hasR_isI _) c
      have hch := few_chars hsV.good HMS.out
      rw [HL.out] at hch
      generalize rngL L = R at *
      have hown' : wr.ownsRow V.heap.size 26 2 u R.length (prC R) := by rw [HK.out]; exact hown
      obtain ⟨A5, c5, hu, hpa, _⟩ := own_pairAt hown'
      rw [HK.out] at hu
      subst hu
      have hX3' := hX3.but hbut hg34
      have hs4 := hsV.but hbut hcV
      have HGS := Lib.hid hs4.good
      have k3 := hX3'.cell0
      have k4 := hB4.cell0
      have bwr := below_but bV hbut hg4w hVw
      have hMlen : (marksOf R).length ≤ 1000 := by
        have h1 := foldIns_len (allM R) []
        rw [allM_len, HK.out] at h1
        simp only [marksOf, List.length_nil] at h1 ⊢
        omega
      have MK : Hid (∀ W, Below wr.heap.size wr W → Calls Tryd.prog 20 #[.slice A5 k c5] W (RetIn (marksOf R) W)) := Lib.hid (fun W hW => marks_any A5 k c5 R W HK.out (hpa.below hW) hokR (by omega))
      have IS : Hid (∀ Am cm W, Below wr.heap.size wr W → IntAt W Am (marksOf R) → Calls Tryd.prog 19 #[.agg #[.slice ao sl cp], .slice Am (marksOf R).length cm, .func (.func 44) #[] #[.pointer (some ⟨g4, 0, none⟩)]] W (RetV (.bool true) W)) := Lib.hid (fun Am cm W hW hI =>
        setIs_any S _ (marksOf R) Am cm 44 #[.pointer (some ⟨g4, 0, none⟩)] (hasR R) W (hs4.below hW) hI (marks_ok R hokR) HM0.out hMlen (enters_of Tryd.func44 (by kernel_rfl) rfl)
          (fun W' hW' x => hasG_any A5 k c5 g4 R W' ((hB4.on hW).on hW').cell0 HK.out ((hpa.below hW).below hW') (by omega) x))
      have CO := Lib.hid (fun W (hW : Below wr.heap.size wr W) => charsOf_any S _ W (hs4.below hW))
      have CNT := Lib.hid (fun W (hW : Below wr.heap.size wr W) => count_any _ S W (hs4.below hW))
      rw [← charsS_length] at CNT
      have ATY := Lib.hid (fun W (hW : Below wr.heap.size wr W) i d h1 h2 => at_yes S _ i d W (hs4.below hW) h1 h2)
      have SAM := Lib.hid (fun W (hW : Below wr.heap.size wr W) v' S' (h1 : IsSet W v' S') (h2 : S' = S) => same_yes S v' _ W (h2 ▸ h1) (hs4.below hW))
      have CIN := Lib.hid (fun (S' : List (Nat × Nat)) (h1 : Good 0 S') (h2 : ∀ c, memS S' c = inL (natI (charsS S)) c) => Good.unique h1 HGS.out (fun c => by rw [h2 c, chars_in HGS.out]))
      have hX4' := hB4
      clear hown hown' hpa hs4 hbut hB4 hMlen hokR hX3 hX4 hsV hcV
      obtain ⟨mm, hmm⟩ : ∃ mm, (marksOf R).length = mm := ⟨_, rfl⟩
      have HMM := Lib.hid hmm
      rw [hmm] at IS
      clear hmm
      generalize charsS S = C at *
      go_wp2_with fail
      go_region_held3 (fun w' => w'.cell? ⟨g3, 0, none⟩ = some (.slice ao sl cp) ∧ w'.cell? ⟨g4, 0, none⟩ = some (.slice A5 k c5))
        (first | exact ⟨(hX3'.on (below_drew _)).cell0, (hX4'.on (below_drew _)).cell0⟩ | exact ⟨(hX3'.on hw1).cell0, (hX4'.on hw1).cell0⟩)
        (first
          | ((with_reducible refine (MK.out _ (below_drew _)).mono ?_); rintro e x1 ⟨um, rfl, hom, z1⟩; obtain ⟨Am, cm, rfl, hIm⟩ := own_intAt hom rfl; rw [HMM.out]; have hw1 : Below wr.heap.size wr x1 := below_step (below_drew _) z1)
          | ((with_reducible refine (IS.out _ _ _ hw1 hIm).mono ?_); rintro e x2 ⟨rfl, z2⟩; have hw1 : Below wr.heap.size wr x2 := below_step hw1 z2))
      all_goals
        have CO2 := Lib.hid (CO.out _ hw1)
        have k3' := (hX3'.on hw1).cell0
        clear CO MK IS
        go_wp2_with fail
        refine CO2.out.mono ?_
        rintro e w7 ⟨u7, rfl, hown7, y7⟩
        have b7 := below_step hw1 y7
        obtain ⟨A7, c7, rfl, hr7⟩ := own_run hown7 rfl
        clear hown7 CO2
        have CHS := Lib.hid (fun W (hW : Below w7.heap.size w7 W) => chars_any (natI C) A7 c7 W (hr7.below hW) (by rw [natI_length]; omega))
        rw [natI_length] at CHS
        obtain ⟨q, hq⟩ : ∃ q, C.length = q := ⟨_, rfl⟩
        rw [hq] at CNT ATY CHS hch ⊢
        have HQ := Lib.hid hq
        have hX7 := hX3'.on b7
        have k7 := hX7.cell0
        have bw7 := bwr.trans (b7.mono bwr.size)
        have CNT7 := Lib.hid (fun W (hW : Below w7.heap.size w7 W) => CNT.out W (b7.trans (hW.mono b7.size)))
        have ATY7 := Lib.hid (fun W (hW : Below w7.heap.size w7 W) => ATY.out W (b7.trans (hW.mono b7.size)))
        have SAM7 := Lib.hid (fun W (hW : Below w7.heap.size w7 W) => SAM.out W (b7.trans (hW.mono b7.size)))
        clear hq CNT ATY SAM hw1 hX3' hX4' hbw hsz k3 k4 k3' bwr hr
        go_wp2_with fail
        go_loopw [52] (fun t W => ∃ j : Nat, j ≤ q ∧ t = .int .i64 (j : Int) ∧ Below w7.heap.size w7 W) (fun t _ => q - (intOf t).toNat)
        case atStart => exact ⟨0, by omega, rfl, Below.refl _ _⟩
        case round =>
          obtain ⟨j, hj, rfl, hbW⟩ := hrel
          have hX9 := hX7.on hbW
          have k9 := hX9.cell0
          by_cases hjq : j < q
          · obtain ⟨ad7, e7, hl7, c17⟩ := (hr7.below hbW).at_ (i := j) (by rw [natI_length, HQ.out]; exact hjq)
            obtain rfl := e7
            obtain ⟨d, hd⟩ : ∃ d, C.getD j 0 = d := ⟨_, rfl⟩
            rw [natI_get, hd] at c17
            have AT := Lib.hid (ATY7.out _ hbW j d hjq hd)
            clear hd
            go_wp2_with fail
            refine AT.out.mono ?_
            rintro e W2 ⟨rfl, yW⟩
            have bW2 := below_step hbW yW
            have dd : ((d : Int) != (d : Int)) = false := by simp
            go_wp2
            go_roundw
            case rel => exact ⟨j + 1, by omega, by go_num, bW2⟩
            case measure => simp [intOf]; omega
          · obtain rfl : j = q := by omega
            have CNTF := Lib.hid (fun W (hW : Below wr.heap.size wr W) => CNT7.out W (hbW.trans (hW.mono hbW.size)))
            have CHSF := Lib.hid (fun W (hW : Below wr.heap.size wr W) => CHS.out W (hbW.trans (hW.mono hbW.size)))
            have SAMF := Lib.hid (fun W (hW : Below wr.heap.size wr W) => SAM7.out W (hbW.trans (hW.mono hbW.size)))
            have dq : decide ((j : Int) = (j : Int)) = true := by simp
            clear CNT7 CHS SAM7 ATY7 hX7 k7
            go_wp2_with fail
            go_region_held3 (fun w' => w'.cell? ⟨g3, 0, none⟩ = some (.slice ao sl cp))
              (first | exact (hX9.on (below_drew _)).cell0 | exact (hX9.on hw1).cell0)
              (first
                | ((with_reducible refine (CNTF.out _ (below_drew _)).mono ?_); rintro e x1 ⟨rfl, z1⟩; have hw1 : Below wr.heap.size wr x1 := below_step (below_drew _) z1)
                | ((with_reducible refine (CHSF.out _ hw1).mono ?_); rintro e x2 ⟨v2, S2, rfl, hset2, hm2, z2⟩; have e2 := CIN.out S2 hset2.good hm2; have hw1 : Below wr.heap.size wr x2 := below_step hw1 z2)
                | ((with_reducible refine (SAMF.out _ hw1 _ _ hset2 e2).mono ?_); rintro e x3 ⟨rfl, z3⟩; have hw1 : Below wr.heap.size wr x3 := below_step hw1 z3))
            all_goals
              go_wp2
              go_ret
              exact ⟨rfl, bw7.trans ((hbW.trans (hw1.mono hbW.size)).mono bw7.size)⟩

theorem cpsetChars_walk (A : Option Addr) (n c : Nat) (L : List Int) (w : World) (he : EnvR w) (hL : L.length = n) (hr : RunIn w A L) (hnc : n ≤ c) (hn : n ≤ 9223372036854775807) : Calls Tryd.prog 6 #[.slice A n c] w (RetV (.bool true) w) := by
  by_cases h40 : n ≤ 40
  · exact charsLaw_small A n c (L.take 40) w he (by rw [List.length_take]; omega) (hr.take 40) h40 hnc hn
  · have h : 40 < n := by omega
    obtain ⟨ad, rfl, _⟩ := hr (by intro e; rw [e] at hL; simp at hL; omega)
    exact charsLaw_big ad n c (L.take 40) w he (by rw [List.length_take]; omega) (hr.take 40) h hnc hn
end Go.Proofs.YtccbofaefpbhlaaDoor
