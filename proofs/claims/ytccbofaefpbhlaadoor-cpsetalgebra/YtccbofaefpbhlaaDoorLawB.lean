/-
  The laws of cpset: the fixed fact.
  The laws of cpset: ranges that came in; Few, Right, Own, Set.
-/
import Derived.Test.YtccbofaefpbhlaaDoorMergeB
import Derived.Laws.StructEq
import Derived.Laws.AppendOwnNone
namespace Go.Proofs.YtccbofaefpbhlaaDoor
set_option linter.unusedVariables false
set_option maxRecDepth 20000
open Go.RowKit Go.Shelf Go.Lib

/-- '==' of two ranges. -/
theorem eqRg : EqlAt Tryd.prog 59 (fun x : Int × Int => .agg #[.int .i32 x.1, .int .i32 x.2]) (fun x y => x.1 == y.1 && x.2 == y.2) := by
  refine ⟨fun x y w => ?_, GuardAt.agg _ (by kernel_rfl)⟩
  have u21 := Tryd.underlying21
  have a21 := Tryd.isAgg21
  have hS : Tryd.prog.underlying 59 = some (.struct (Tryd.prog.fieldsOf 59)) := by kernel_rfl
  have hp : Tryd.prog.stoodInHeld 59 = false := by kernel_rfl
  rw [run_eql_struct, show (10000 : Nat) = 9999 + 1 from rfl, run_equalIn_agg w 9999 59 _ _ hS hp]
  simp only [Program.fieldsOf, Tryd.underlying59]
  go_simp
  by_cases h1 : x.fst = y.fst <;> by_cases h2 : x.snd = y.snd <;> simp [h1, h2]

def awS : List (Nat × Nat) := [(97, 101)]
theorem awS_good : Good 0 awS := ⟨by omega, by omega, by omega, by omega, trivial⟩
theorem awS_mem (c : Nat) : memS awS c = inR [(97, 99), (98, 101)] c := by
  rw [Bool.eq_iff_iff, memS_ex]
  simp only [awS, inR, List.any_eq_true, List.mem_cons, List.not_mem_nil, or_false, decide_eq_true_eq]
  constructor
  · rintro ⟨r, rfl, h1, h2⟩
    simp only at h1 h2
    by_cases h : c ≤ 99
    · exact ⟨_, .inl rfl, by simp only; omega⟩
    · exact ⟨_, .inr rfl, by simp only; omega⟩
  · rintro ⟨r, rfl | rfl, h⟩
    · exact ⟨_, rfl, by simp only at h ⊢; omega, by simp only at h ⊢; omega⟩
    · exact ⟨_, rfl, by simp only at h ⊢; omega, by simp only at h ⊢; omega⟩
def awN : List (Nat × Nat) := [(0, 96), (102, 55295), (57344, 1114111)]
theorem awN_good : Good 0 awN := ⟨by omega, by omega, by omega, by omega, by omega, by omega, by omega, by omega, by omega, by omega, by omega, by omega, trivial⟩
theorem awN_mem (c : Nat) : memS awN c = (allB c && !memS awS c) := by
  rw [Bool.eq_iff_iff, Bool.and_eq_true, Bool.not_eq_true', ← Bool.not_eq_true, memS_ex, memS_ex, allB, decide_eq_true_eq]
  simp only [awN, awS, List.mem_cons, List.not_mem_nil, or_false]
  constructor
  · rintro ⟨r, rfl | rfl | rfl, h1, h2⟩
    all_goals
      simp only at h1 h2
      refine ⟨by omega, ?_⟩
      rintro ⟨r, rfl, h3, h4⟩
      simp only at h3 h4
      omega
  · rintro ⟨h, h0⟩
    have h1 : ¬ (97 ≤ c ∧ c ≤ 101) := fun h1 => h0 ⟨_, rfl, h1⟩
    by_cases h2 : c < 97
    · exact ⟨_, .inl rfl, by simp only; omega, by simp only; omega⟩
    · by_cases h3 : c < 55296
      · exact ⟨_, .inr (.inl rfl), by simp only; omega, by simp only; omega⟩
      · exact ⟨_, .inr (.inr rfl), by simp only; omega, by simp only; omega⟩
theorem MayMerge.small {S T : List (Nat × Nat)} (h1 : 0 < S.length + T.length) (h2 : S.length + T.length ≤ 6) : MayMerge S T := ⟨by omega⟩

set_option maxHeartbeats 4000000 in
theorem awake_any (w : World) (he : EnvR w) : Calls Tryd.prog 13 #[] w (RetV (.bool true) w) := by
  have hq : ∀ w, Sem.run Tryd.prog (binOp .eql 59 (.agg #[.int .i32 97, .int .i32 101]) (.agg #[.int .i32 97, .int .i32 101])) w = .ok (.bool true) w := fun w => eqRg.1 (97, 101) (97, 101) w
  have hg : ∀ a b w, Sem.run Tryd.prog (eqGuard .eql 59 a b (.agg #[.int .i32 97, .int .i32 101]) (.agg #[.int .i32 97, .int .i32 101])) w = .ok () w := fun a b w => eqRg.2 .eql a b (97, 101) (97, 101) w
  have hX := Blk.new w 59 #[.int .i32 97, .int .i32 99, .int .i32 98, .int .i32 101]
  have b0 := below_new w (.cells #[.int .i32 97, .int .i32 99, .int .i32 98, .int .i32 101] 59)
  have hin : RgIn (w.alloc (.cells #[.int .i32 97, .int .i32 99, .int .i32 98, .int .i32 101] 59)) (some ⟨w.heap.size, 0, none⟩) [(97, 99), (98, 101)] := fun _ => by
    refine ⟨_, rfl, by simp, fun i hi => ?_⟩
    rcases i with _ | _ | i
    · exact ⟨(hX.cell 0).trans rfl, (hX.cell 1).trans rfl⟩
    · exact ⟨(hX.cell 2).trans rfl, (hX.cell 3).trans rfl⟩
    · exact absurd hi (by simp)
  have HO := Lib.hid (of_any [(97, 99), (98, 101)] _ 2 2 _ (he.kept b0) hin (by decide) (by decide) (fun j hj => by
    rcases j with _ | _ | j
    · exact ⟨by decide, by decide, by decide⟩
    · exact ⟨by decide, by decide, by decide⟩
    · omega) (fun h => absurd h (by decide)))
  simp only [List.length_cons, List.length_nil, Nat.zero_add, Nat.reduceAdd] at HO
  have HE := Lib.hid he
  have HQ := Lib.hid hq
  have HG := Lib.hid hg
  clear hin he hq hg
  go_enter Tryd.func13, Tryd.ntmps13
  go_wp2_with fail
  refine HO.out.mono ?_
  rintro e w1 (⟨_, v, S, rfl, hset, hmem, y1⟩ | ⟨h, _⟩)
  · have hset := hset.as awS_good (fun c => by rw [hmem, awS_mem])
    have b1 := below_step b0 y1
    obtain ⟨ao, cp, rfl⟩ := hset.shape
    have hs := hset.alloc (.cells #[.slice ao awS.length cp] 29)
    have hX1 := Blk.new w1 29 #[.slice ao awS.length cp]
    have b2 := b1.alloc b1.size (.cells #[.slice ao awS.length cp] 29)
    have HR := Lib.hid (ranges_any awS _ _ hs)
    rw [show awS.length = 1 from rfl] at HR hs hX1 b2
    clear hmem hset
    rw [show awS.length = 1 from rfl]
    go_wp2_with fail
    refine HR.out.mono ?_
    rintro e w2 ⟨u, rfl, hown, y2⟩
    obtain ⟨g, cap, rfl, hl, c0, c1⟩ := own_rg (L := awS) (n := 1) (by simpa [intR, awS] using hown) rfl (i := 0) (by omega)
    have hX2 := hX1.on y2
    have k2 := hX2.cell0
    have b3 := b2.trans (y2.mono b2.size)
    have hs2 := hs.below y2
    simp only [Nat.zero_mul, Nat.zero_add, awS, List.getD_cons_zero] at c0 c1
    have CO := Lib.hid (count_any _ awS w2 hs2)
    rw [show cnt awS = 5 from rfl] at CO
    have hq := HQ.out
    have hg := HG.out
    go_wp2_with fail
    refine CO.out.mono ?_
    rintro e w3 ⟨rfl, y3⟩
    have b4 := below_step b3 y3
    have k3 := (hX2.on y3).cell0
    have NO := Lib.hid (not_any awS _ w3 (HE.out.kept b4) (hs2.below y3) (MayMerge.small (by decide) (by decide)))
    go_wp2_with fail
    refine NO.out.mono ?_
    rintro e w4 ⟨v, R, rfl, hset, hmem, y4⟩
    have hset := hset.as awN_good (fun c => by rw [hmem, awN_mem])
    have b5 := b4.trans (y4.mono b4.size)
    have HR4 := Lib.hid (ranges_any awN v w4 hset)
    obtain ⟨ao4, cp4, rfl⟩ := hset.shape
    clear hset hmem
    rw [show awN.length = 3 from rfl] at HR4 ⊢
    go_wp2_with fail
    refine HR4.out.mono ?_
    rintro e w5 ⟨u5, rfl, hown5, y5⟩
    have b6 := below_step b5 y5
    have hown5' : w5.ownsRow w4.heap.size 59 2 u5 3 (rgCells (intR awN)) := hown5
    obtain ⟨ao5, cp5, rfl⟩ := own_form2 hown5'
    clear hown5 hown5'
    go_wp2
    go_ret
    exact ⟨rfl, b6⟩
  · exact absurd h (by decide)
end Go.Proofs.YtccbofaefpbhlaaDoor

namespace Go.Proofs.YtccbofaefpbhlaaDoor
set_option linter.unusedVariables false
set_option maxRecDepth 20000
open Go.RowKit

/-- Ranges of the laws. -/
def PairIn (w : World) (A : Option Addr) (L : List (Int × Int)) : Prop :=
  L ≠ [] → ∃ ad, A = some ad ∧ ad.block < w.heap.size ∧ ∀ i, i < L.length → w.cell? (ad.add (i * 2)) = some (.int .i64 (L.getD i (0, 0)).1) ∧ w.cell? (ad.add (i * 2 + 1)) = some (.int .i64 (L.getD i (0, 0)).2)
theorem PairIn.below {w w' : World} {A : Option Addr} {L : List (Int × Int)} (h : PairIn w A L) (hb : Below w.heap.size w w') : PairIn w' A L := fun hn => by
  obtain ⟨ad, e, hl, hc⟩ := h hn
  exact ⟨ad, e, Nat.lt_of_lt_of_le hl hb.size, fun i hi => ⟨(hb.cell (by rw [add_block]; exact hl)).trans (hc i hi).1, (hb.cell (by rw [add_block]; exact hl)).trans (hc i hi).2⟩⟩
theorem PairIn.at_ {w : World} {A : Option Addr} {L : List (Int × Int)} (h : PairIn w A L) {i : Nat} (hi : i < L.length) : ∃ ad, A = some ad ∧ ad.block < w.heap.size ∧ w.cell? (ad.add (i * 2)) = some (.int .i64 (L.getD i (0, 0)).1) ∧ w.cell? (ad.add (i * 2 + 1)) = some (.int .i64 (L.getD i (0, 0)).2) := by
  obtain ⟨ad, e, hl, hc⟩ := h (by intro e; simp [e] at hi)
  exact ⟨ad, e, hl, hc i hi⟩
theorem PairIn.none_ {w : World} {L : List (Int × Int)} (h : PairIn w none L) : L = [] := by
  rcases Classical.em (L = []) with h1 | h1
  · exact h1
  · obtain ⟨ad, e, _⟩ := h h1
    cases e
theorem PairIn.take {w : World} {A : Option Addr} {L : List (Int × Int)} (h : PairIn w A L) (k : Nat) : PairIn w A (L.take k) := fun hn => by
  obtain ⟨ad, e, hl, hc⟩ := h (by intro e; simp [e] at hn)
  refine ⟨ad, e, hl, fun i hi => ?_⟩
  rw [List.length_take] at hi
  have e1 : (L.take k).getD i (0, 0) = L.getD i (0, 0) := by simp [List.getD, show i < k by omega]
  rw [e1]
  exact hc i (by omega)
/-- Their cells. -/
def prC (L : List (Int × Int)) : List Value := L.flatMap fun r => [.int .i64 r.1, .int .i64 r.2]
theorem prC_length (L : List (Int × Int)) : (prC L).length = 2 * L.length := by
  induction L with
  | nil => rfl
  | cons x r ih => simp only [prC, List.flatMap_cons, List.length_append, List.length_cons, List.length_nil] at ih ⊢; omega
theorem prC_get : ∀ (L : List (Int × Int)) (i : Nat), i < L.length → (prC L)[i * 2]? = some (.int .i64 (L.getD i (0, 0)).1) ∧ (prC L)[i * 2 + 1]? = some (.int .i64 (L.getD i (0, 0)).2)
  | [], i, h => by simp at h
  | (a, b) :: r, 0, _ => by simp [prC]
  | (a, b) :: r, i + 1, h => by
    obtain ⟨h1, h2⟩ := prC_get r i (by simpa using h)
    have e : prC ((a, b) :: r) = [.int .i64 a, .int .i64 b] ++ prC r := by simp [prC]
    rw [e, List.getElem?_append_right (by simp; omega), List.getElem?_append_right (by simp; omega)]
    simp only [List.length_cons, List.length_nil, Nat.zero_add, Nat.reduceAdd, show (i + 1) * 2 - 2 = i * 2 by omega, show (i + 1) * 2 + 1 - 2 = i * 2 + 1 by omega, List.getD_cons_succ]
    exact ⟨h1, h2⟩
theorem prC_one (L : List (Int × Int)) : ∀ u ∈ prC L, u.oneCell' = true := by
  intro u hu
  simp only [prC, List.mem_flatMap] at hu
  obtain ⟨r, _, hr⟩ := hu
  simp at hr
  rcases hr with rfl | rfl <;> rfl
theorem PairIn.src {w : World} {ad : Addr} {L : List (Int × Int)} (h : PairIn w (some ad) L) : ∀ (j : Nat) (u : Value), (prC L)[j]? = some u → w.cell? (ad.add j) = some u := by
  intro j u hu
  have hj : j < 2 * L.length := by
    rcases Nat.lt_or_ge j (prC L).length with h1 | h1
    · rw [prC_length] at h1; exact h1
    · rw [List.getElem?_eq_none h1] at hu; cases hu
  have hi : j / 2 < L.length := by omega
  obtain ⟨ad', e, _, c0, c1⟩ := h.at_ hi
  obtain rfl := Option.some.inj e
  obtain ⟨g0, g1⟩ := prC_get L (j / 2) hi
  rcases (show j = j / 2 * 2 ∨ j = j / 2 * 2 + 1 by omega) with h2 | h2
  · rw [h2, g0] at hu; rw [h2, c0]; exact hu
  · rw [h2, g1] at hu; rw [h2, c1]; exact hu
theorem own_pair {w : World} {B : Nat} {u : Value} {L : List (Int × Int)} (h : w.ownsRow B 26 2 u L.length (prC L)) : ∃ A c, u = .slice A L.length c ∧ PairIn w A L ∧ L.length ≤ c := by
  rcases h.2 with ⟨rfl, h0⟩ | ⟨g, cap, cur, rfl, _, hh, hnc, _⟩
  · have : L = [] := List.length_eq_zero_iff.1 h0
    subst this
    exact ⟨none, 0, rfl, fun hn => absurd rfl hn, Nat.le_refl _⟩
  · refine ⟨_, cap, rfl, fun _ => ⟨_, rfl, (Array.getElem?_eq_some_iff.1 hh).1, fun i hi => ?_⟩, hnc⟩
    obtain ⟨h1, h2⟩ := prC_get L i hi
    exact ⟨h.cells (g := g) rfl _ _ h1, h.cells (g := g) rfl _ _ h2⟩
theorem own_rgIn {w : World} {B : Nat} {u : Value} {L : List (Int × Int)} (h : w.ownsRow B 59 2 u L.length (rgCells L)) : ∃ A c, u = .slice A L.length c ∧ RgIn w A L := by
  rcases h.2 with ⟨rfl, h0⟩ | ⟨g, cap, cur, rfl, _, hh, hnc, _⟩
  · have : L = [] := List.length_eq_zero_iff.1 h0
    subst this
    exact ⟨none, 0, rfl, fun hn => absurd rfl hn⟩
  · refine ⟨_, cap, rfl, fun _ => ⟨g, rfl, (Array.getElem?_eq_some_iff.1 hh).1, fun i hi => ?_⟩⟩
    have key : ∀ (L : List (Int × Int)) (i : Nat), i < L.length → (rgCells L)[i * 2]? = some (.int .i32 (L.getD i (0, 0)).1) ∧ (rgCells L)[i * 2 + 1]? = some (.int .i32 (L.getD i (0, 0)).2) := by
      intro L
      induction L with
      | nil => intro i h; simp at h
      | cons x r ih =>
        intro i h
        rcases i with _ | i
        · simp [rgCells]
        · obtain ⟨h1, h2⟩ := ih i (by simpa using h)
          have e : rgCells (x :: r) = [.int .i32 x.1, .int .i32 x.2] ++ rgCells r := by simp [rgCells]
          rw [e, List.getElem?_append_right (by simp; omega), List.getElem?_append_right (by simp; omega)]
          simp only [List.length_cons, List.length_nil, Nat.zero_add, Nat.reduceAdd, show (i + 1) * 2 - 2 = i * 2 by omega, show (i + 1) * 2 + 1 - 2 = i * 2 + 1 by omega, List.getD_cons_succ]
          exact ⟨h1, h2⟩
    obtain ⟨h1, h2⟩ := key L i hi
    have c1 := h.cells (g := g) rfl _ _ h1
    have c2 := h.cells (g := g) rfl _ _ h2
    rw [add_zero_block] at c1 c2
    exact ⟨c1, c2⟩

theorem pr_info : (Tryd.prog.info? 26).map (fun i => (i.zero, i.size, i.bytes)) = some (some (.agg #[.int .i64 0, .int .i64 0]), 2, 16) := by kernel_rfl
/-- It answers ranges of the laws in a row of its own. -/
def RetPr (L : List (Int × Int)) (w : World) (e : Ending) (w' : World) : Prop := ∃ u, e = .returned u ∧ w'.ownsRow w.heap.size 26 2 u L.length (prC L) ∧ Below w.heap.size w w'

set_option maxHeartbeats 2000000 in
theorem few_any (A : Option Addr) (n c : Nat) (L : List (Int × Int)) (w : World) (hL : L.length = n) (hr : PairIn w A L) (hnc : n ≤ c) (hnil : A = none → c = 0) (hn : n ≤ 9223372036854775807) : Calls Tryd.prog 14 #[.slice A n c] w (RetPr (L.take 12) w) := by
  obtain ⟨i0, hi0, hz0, hz1, hz2⟩ := info_parts pr_info
  rcases A with _ | ad
  · have hl0 : L = [] := hr.none_
    subst hl0
    obtain rfl : n = 0 := by rw [← hL]; rfl
    obtain rfl := hnil rfl
    have ho := World.ownsRow_lit (base := w.heap.size) (e := 26) (size := 2) w #[] 0 (Nat.le_refl _) (by decide) rfl
    clear hr hnil hL
    go_enter Tryd.func14, Tryd.ntmps14
    go_wp2_with (at_builtin; refine wpList_append_own_none rfl (.tmp 8) (.tmp 9) 22 rfl w.heap.size 26 i0 2 Tryd.underlying22 hi0 _ 0 _ rfl ho rfl ?_)
    go_ret
    exact ⟨_, rfl, by simpa [prC] using ho, below_new _ _⟩
  · by_cases h12 : 12 < n
    · have hlen : (L.take 12).length = 12 := by rw [List.length_take]; omega
      have HS := Lib.hid (((hr.take 12).below (below_new w (.cells #[] 26))).src)
      have HL := Lib.hid (prC_length (L.take 12))
      rw [hlen] at HL
      have HLEN := Lib.hid hlen
      clear hL hr hlen
      have ho := World.ownsRow_lit (base := w.heap.size) (e := 26) (size := 2) w #[] 0 (Nat.le_refl _) (by decide) rfl
      go_enter Tryd.func14, Tryd.ntmps14
      go_wp2_with (at_builtin; refine wpList_append_own _ rfl (.tmp 8) (.tmp 9) 22 rfl w.heap.size 26 i0 (.agg #[.int .i64 0, .int .i64 0]) 2 16 Tryd.underlying22 hi0 hz0 hz1 hz2 rfl (by decide) (.slice (some ⟨w.heap.size, 0, none⟩) 0 0) 0 [] rfl ho ad 12 c (prC (L.take 12)) rfl (by rw [HL.out]) HS.out (prC_one _) (by unfold maxLen; omega) (by omega) (by simp) ?_; intro v' w4 hown4 hgrow _; have hb4 : Below w.heap.size w w4 := (below_new w _).grown hgrow (by simp) (by simp [Value.ownBlock]); clear hgrow)
      go_ret
      exact ⟨_, rfl, by rw [HLEN.out]; simpa using hown4, hb4⟩
    · have hlen : L.take 12 = L := List.take_of_length_le (by omega)
      rw [hlen]
      have HS := Lib.hid ((hr.below (below_new w (.cells #[] 26))).src)
      have HL := Lib.hid (prC_length L)
      rw [hL] at HL
      have HLEN := Lib.hid hL
      clear hL hr hlen hnil
      have ho := World.ownsRow_lit (base := w.heap.size) (e := 26) (size := 2) w #[] 0 (Nat.le_refl _) (by decide) rfl
      go_enter Tryd.func14, Tryd.ntmps14
      go_wp2_with (at_builtin; refine wpList_append_own _ rfl (.tmp 8) (.tmp 9) 22 rfl w.heap.size 26 i0 (.agg #[.int .i64 0, .int .i64 0]) 2 16 Tryd.underlying22 hi0 hz0 hz1 hz2 rfl (by decide) (.slice (some ⟨w.heap.size, 0, none⟩) 0 0) 0 [] rfl ho ad n c (prC L) rfl (by rw [HL.out]; omega) HS.out (prC_one _) (by unfold maxLen; omega) (by omega) (by simp) ?_; intro v' w4 hown4 hgrow _; have hb4 : Below w.heap.size w w4 := (below_new w _).grown hgrow (by simp) (by simp [Value.ownBlock]); clear hgrow)
      go_ret
      exact ⟨_, rfl, by rw [HLEN.out]; simpa using hown4, hb4⟩

theorem i64_and21' (n : Int) : bits .and .i64 n 2097151 = n % 2097152 := by
  have h127 : (BitVec.ofInt 64 2097151).toNat = 2 ^ 21 - 1 := by decide
  have key : (BitVec.ofInt 64 n &&& BitVec.ofInt 64 2097151).toNat = (n % ((2 ^ 64 : Nat) : Int)).toNat % 2 ^ 21 := by
    rw [BitVec.toNat_and, BitVec.toNat_ofInt, h127, Nat.and_two_pow_sub_one_eq_mod]
  show IntKind.i64.wrap ((BitVec.ofInt 64 n &&& BitVec.ofInt 64 2097151).toNat : Nat) = n % 2097152
  rw [key, IntKind.wrap_i64]
  omega
/-- A number of any, as one that a character may have. -/
def cutC (x : Int) : Int := x % 2097152 % 1114112
theorem cutC_range (x : Int) : 0 ≤ cutC x ∧ cutC x < 1114112 := by unfold cutC; omega
/-- A range that may be. -/
def rightP (r : Int × Int) : Int × Int := (min (cutC r.1) (cutC r.2), max (cutC r.1) (cutC r.2))
/-- The first i of them made right. -/
def rightI (L : List (Int × Int)) (i : Nat) : List (Int × Int) := (L.take i).map rightP ++ L.drop i
theorem rightI_zero (L : List (Int × Int)) : rightI L 0 = L := by simp [rightI]
theorem rightI_all (L : List (Int × Int)) : rightI L L.length = L.map rightP := by simp [rightI]
theorem rightI_length (L : List (Int × Int)) (i : Nat) (h : i ≤ L.length) : (rightI L i).length = L.length := by simp [rightI]; omega
theorem rightI_get (L : List (Int × Int)) (i : Nat) (h : i < L.length) : (rightI L i).getD i (0, 0) = L.getD i (0, 0) := by
  rw [rightI, List.getD_eq_getElem?_getD, List.getElem?_append_right (by simp; omega)]
  simp [List.getD, Nat.min_eq_left (Nat.le_of_lt h)]
theorem rightI_succ (L : List (Int × Int)) (i : Nat) (h : i < L.length) : (rightI L i).set i (rightP (L.getD i (0, 0))) = rightI L (i + 1) := by
  have e : L.getD i (0, 0) = L[i] := by simp [List.getD, h]
  rw [e, rightI, List.set_append_right _ _ (by simp; omega), rightI, List.take_succ_eq_append_getElem h, List.map_append, List.append_assoc]
  congr 1
  rw [show i - (List.map rightP (L.take i)).length = 0 by simp; omega, List.drop_eq_getElem_cons h]
  rfl
theorem prC_set : ∀ (L : List (Int × Int)) (i : Nat) (r : Int × Int), i < L.length → ((prC L).set (i * 2) (.int .i64 r.1)).set (i * 2 + 1) (.int .i64 r.2) = prC (L.set i r)
  | [], i, r, h => by simp at h
  | (a, b) :: l, 0, r, _ => by simp [prC]
  | (a, b) :: l, i + 1, r, h => by
    have ih := prC_set l i r (by simpa using h)
    have e : ∀ (x : Int × Int) m, prC (x :: m) = [.int .i64 x.1, .int .i64 x.2] ++ prC m := fun x m => by simp [prC]
    rw [List.set_cons_succ, e, e, ← ih, List.set_append_right _ _ (by simp; omega), List.set_append_right _ _ (by simp; omega)]
    congr 2 <;> simp <;> congr 1 <;> omega

/-- Numbers of a row of one's own, stored anew. -/
theorem own_set_two {w : World} {B n g cap i : Nat} {L : List (Int × Int)} (h : w.ownsRow B 26 2 (.slice (some ⟨g, 0, none⟩) n cap) n (prC L)) (hi : i < L.length) (r : Int × Int) :
    ((w.setCell ⟨g, i * 2, none⟩ (.int .i64 r.1)).setCell ⟨g, i * 2 + 1, none⟩ (.int .i64 r.2)).ownsRow B 26 2 (.slice (some ⟨g, 0, none⟩) n cap) n (prC (L.set i r)) := by
  have h1 := own_set_cell h (i := i * 2) (by rw [prC_length]; omega) (.int .i64 r.1)
  have h2 := own_set_cell h1 (i := i * 2 + 1) (by rw [List.length_set, prC_length]; omega) (.int .i64 r.2)
  rw [prC_set L i r hi] at h2
  exact h2

set_option maxHeartbeats 8000000 in
theorem right_any (A : Option Addr) (n c : Nat) (L : List (Int × Int)) (w : World) (hL : L.length = n) (hr : PairIn w A L) (hnc : n ≤ c) (hnil : A = none → c = 0) (hn : n ≤ 9223372036854775807) : Calls Tryd.prog 23 #[.slice A n c] w (RetPr ((L.take 12).map rightP) w) := by
  have HF := Lib.hid (few_any A n c L w hL hr hnc hnil hn)
  have hm12 : (L.take 12).length ≤ 12 := by rw [List.length_take]; omega
  generalize L.take 12 = M at *
  clear hL hr hnc hnil
  obtain ⟨m, hm⟩ : ∃ m, M.length = m := ⟨_, rfl⟩
  have HM := Lib.hid hm
  rw [hm] at hm12
  clear hm
  go_enter Tryd.func23, Tryd.ntmps23
  go_wp2_with fail
  refine HF.out.mono ?_
  rintro e w1 ⟨u, rfl, hown, y1⟩
  rw [HM.out] at hown
  obtain ⟨ao, cap, rfl⟩ := own_form2 hown
  have hown0 : w1.ownsRow w.heap.size 26 2 (.slice ao m cap) m (prC (rightI M 0)) := by rw [rightI_zero]; exact hown
  clear HF hown
  go_wp2
  go_loopw [12] (fun t wr => ∃ i : Nat, i ≤ m ∧ t = .int .i64 (i : Int) ∧ wr.ownsRow w.heap.size 26 2 (.slice ao m cap) m (prC (rightI M i)) ∧ Below w.heap.size w wr) (fun t _ => m - (intOf t).toNat)
  case atStart => exact ⟨0, by omega, rfl, hown0, y1⟩
  case round =>
    obtain ⟨i, hi, rfl, hown, hbw⟩ := hrel
    by_cases him : i < m
    · obtain ⟨g, rfl, cur, hB, hgB⟩ : ∃ g, ao = some ⟨g, 0, none⟩ ∧ ∃ cur, Blk wr g 26 cur ∧ w.heap.size ≤ g := by
        rcases hown.2 with ⟨e, h0⟩ | ⟨g, cap', cur, e, hB, hh, _⟩
        · omega
        · injection e with e1 e2 e3
          exact ⟨g, e1, cur, hh, hB⟩
      have hil : i < (rightI M i).length := by rw [rightI_length _ _ (by rw [HM.out]; exact hi), HM.out]; exact him
      obtain ⟨p0, p1⟩ := prC_get (rightI M i) i hil
      rw [rightI_get M i (by rw [HM.out]; exact him)] at p0 p1
      have c0 := hown.cells (g := g) rfl _ _ p0
      have c1 := hown.cells (g := g) rfl _ _ p1
      rw [add_zero_block] at c0 c1
      have HS := Lib.hid (rightI_succ M i (by rw [HM.out]; exact him))
      have HIL := Lib.hid hil
      generalize M.getD i (0, 0) = r at *
      obtain ⟨x, y⟩ := r
      simp only at c0 c1
      clear p0 p1 hil
      have hx1 := i64_and21' x
      have hy1 := i64_and21' y
      have hx2 : (x % 2097152).tmod 1114112 = cutC x := by rw [Int.tmod_eq_emod_of_nonneg (by omega)]; rfl
      have hy2 : (y % 2097152).tmod 1114112 = cutC y := by rw [Int.tmod_eq_emod_of_nonneg (by omega)]; rfl
      obtain ⟨rx0, rx1⟩ := cutC_range x
      obtain ⟨ry0, ry1⟩ := cutC_range y
      have hrp : Hid (rightP (x, y) = (min (cutC x) (cutC y), max (cutC x) (cutC y))) := rfl
      generalize cutC x = a at *
      generalize cutC y = b at *
      have q0 : cur[i * 2]? = some (.int .i64 x) := (hB.cell _).symm.trans c0
      have q1 : cur[i * 2 + 1]? = some (.int .i64 y) := (hB.cell _).symm.trans c1
      have hB2 : Blk (wr.alloc (.cells #[.int .i64 x, .int .i64 y] 26)).drew g 26 cur := hB.alloc _
      have hor : (wr.alloc (.cells #[.int .i64 x, .int .i64 y] 26)).drew.ownsRow w.heap.size 26 2 (.slice (some ⟨g, 0, none⟩) m cap) m (prC (rightI M i)) := hown.alloc _
      have hbr : Below w.heap.size w (wr.alloc (.cells #[.int .i64 x, .int .i64 y] 26)).drew := (hbw.alloc hbw.size _).drew
      have HX := Lib.hid hB2
      have HO := Lib.hid hor
      have HBR := Lib.hid hbr
      have HQ := Lib.hid (And.intro q0 q1)
      clear q0 q1 hB2 hor hbr hown hown0
      go_wp2_with fail
      go_region
      have hB2 := HX.out
      have hor := HO.out
      have hbr := HBR.out
      obtain ⟨q0, q1⟩ := HQ.out
      clear HX HO HBR HQ hB c0 c1 hx1 hy1 hx2 hy2
      generalize (wr.alloc (.cells #[.int .i64 x, .int .i64 y] 26)).drew = V at *
      have c0 := (hB2.cell (i * 2)).trans q0
      have f0 := hB2.free (i * 2)
      have hB3 := hB2.set_ (i * 2) (.int .i64 (min a b))
      have c1 : (V.setCell ⟨g, i * 2, none⟩ (.int .i64 (min a b))).cell? ⟨g, i * 2 + 1, none⟩ = some (.int .i64 y) := (hB3.cell (i * 2 + 1)).trans (by rw [Array.getElem?_setIfInBounds_ne (by omega)]; exact q1)
      have f1 := hB3.free (i * 2 + 1)
      have HN := Lib.hid (own_set_two hor HIL.out (min a b, max a b))
      have HBE := Lib.hid ((hbr.setCell (p := ⟨g, i * 2, none⟩) hgB (.int .i64 (min a b))).setCell (p := ⟨g, i * 2 + 1, none⟩) hgB (.int .i64 (max a b)))
      clear hB2 hB3 hor hbr q0 q1
      go_wp2
      go_roundw
      case rel => exact ⟨i + 1, by omega, by go_num, by rw [← HS.out, hrp.out]; exact HN.out, HBE.out⟩
      case measure => simp [intOf]; omega
    · obtain rfl : i = m := by omega
      have hall : rightI M i = M.map rightP := by rw [← HM.out, rightI_all]
      rw [hall] at hown
      have hln : (M.map rightP).length = i := by rw [List.length_map, HM.out]
      have HLN := Lib.hid hln
      clear hln hall
      go_wp2
      go_ret
      exact ⟨_, rfl, by rw [HLN.out]; exact hown, hbw⟩
end Go.Proofs.YtccbofaefpbhlaaDoor
