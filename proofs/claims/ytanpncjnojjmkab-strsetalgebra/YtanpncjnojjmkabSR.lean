/-
  StrsetAlgebra: its walk.
-/
import Derived.Test.YtanpncjnojjmkabSQ
import Derived.Test.YtanpncjnojjmkabInvB
namespace Go.Proofs.Ytanpncjnojjmkab
set_option linter.unusedVariables false
set_option maxRecDepth 100000
open Go.RowKit Go.Shelf

/-- What is known of a slot. -/
inductive Wd where
  | eq (v : Value)
  | isK (ks : List Nat)
  | isT (l : List Tx)
  | isS (l : List Tx)
def Wd.ok : Wd → World → Value → Prop
  | .eq u, _, v => v = u
  | .isK ks, w, v => IsK w v ks
  | .isT l, w, v => IsT w v l
  | .isS l, w, v => IsS w v l
theorem arr_eta (t : Array Value) (n : Nat) (h : t.size = n) : t = ((List.range n).map fun k => t.getD k undef).toArray := by
  subst h
  apply Array.ext
  · simp
  · intro i h1 h2
    simp [h1]
theorem Wd.stable {d : Wd} {w w' : World} {v : Value} (hb : Below w.heap.size w w') (h : d.ok w v) : d.ok w' v := by
  cases d with
  | eq u => exact h
  | isK ks => exact IsK.below h hb
  | isT l => exact IsT.below h hb
  | isS l => exact IsS.below h hb
def tblA (s0 t0 va vb : Value) (S KO KA KL KX : List Tx) : List Wd :=
  [.eq (.agg #[s0]), .eq va, .isK [1], .isT S, .eq (.bool true), .eq (.bool false), .eq (.bool false), .eq (.agg #[s0]), .eq (.agg #[t0]), .isS KO, .eq va, .eq vb, .isK [1, 2, 3], .isT KO, .eq (.bool true), .eq (.bool false), .eq (.bool false), .eq (.bool false), .eq (.agg #[s0]), .eq (.agg #[t0]), .isS KA, .eq va, .eq vb, .isK [3], .isT KA, .eq (.bool true), .eq (.bool false), .eq (.bool false), .eq (.bool false), .eq (.agg #[s0]), .eq (.agg #[t0]), .isS KL, .eq va, .eq vb, .isK [1], .isT KL, .eq (.bool true), .eq (.bool false), .eq (.bool false), .eq (.bool false), .eq (.agg #[s0]), .eq (.agg #[t0]), .isS KX, .eq va, .eq vb, .isK [1, 2], .isT KX, .eq (.bool true), .eq (.bool false), .eq (.bool false)]

set_option maxHeartbeats 40000000 in
theorem strsetAlgebra_walk (A B : Option Addr) (ca cb : Nat) (l m : List Tx) (w : World) (hc : Came w A l) (hn : l.length ≤ 9223372036854775807) (hx : ∀ x ∈ l, x.length ≤ 9223372036854775807) (hc' : Came w B m) (hn' : m.length ≤ 9223372036854775807) (hx' : ∀ x ∈ m, x.length ≤ 9223372036854775807) :
    Calls Try.prog 3 #[.slice A l.length ca, .slice B m.length cb] w (RetV (.bool true) w) := by
  have HF := Lib.hid fun W hb => few_any A ca l W (hc.below hb) hn hx
  have HG := Lib.hid fun W hb => few_any B cb m W (hc'.below hb) hn' hx'
  have hfl := few_len l
  have hfm := few_len m
  clear hc hc'
  generalize few l = a at *
  generalize few m = b at *
  generalize l.length = n0 at *
  generalize m.length = m0 at *
  go_enter Try.func3, Try.ntmps3
  go_wp2_with fail
  with_reducible refine (awake_any _).mono ?_
  rintro e w1 ⟨rfl, b1⟩
  go_wp2_with fail
  with_reducible refine (HF.out _ b1).mono ?_
  rintro e w2 ⟨v2, rfl, ta, y2⟩
  have b2 := below_step b1 y2
  obtain ⟨Aa, qa, ea, _, _⟩ := ta.form
  obtain ⟨na, hna⟩ : ∃ n, Hid (a.length = n) := ⟨_, rfl⟩
  rw [hna.out] at ea
  subst ea
  go_wp2_with fail
  with_reducible refine (HG.out _ b2).mono ?_
  rintro e w3 ⟨v3, rfl, tb, y3⟩
  have b3 := below_step b2 y3
  have ta := ta.below y3
  obtain ⟨Ab, qb, eb, _, _⟩ := tb.form
  obtain ⟨nb, hnb⟩ : ∃ n, Hid (b.length = n) := ⟨_, rfl⟩
  rw [hnb.out] at eb
  subst eb
  have HO := Lib.hid (of_any _ a w3 ta (by omega))
  clear HF HG
  go_wp2_with fail
  with_reducible refine HO.out.mono ?_
  rintro e w4 ⟨v4, rfl, hs, y4⟩
  have b4 := below_step b3 y4
  have ta := ta.below y4
  have tb := tb.below y4
  have HO2 := Lib.hid (of_any _ b w4 tb (by omega))
  obtain ⟨As, cs, es⟩ := hs.form
  obtain ⟨ns, hns⟩ : ∃ n, Hid ((setOf a).length = n) := ⟨_, rfl⟩
  rw [hns.out] at es
  subst es
  clear HO
  go_wp2_with fail
  with_reducible refine HO2.out.mono ?_
  rintro e w5 ⟨v5, rfl, ht, y5⟩
  have b5 := below_step b4 y5
  have ta := ta.below y5
  have tb := tb.below y5
  have hs := hs.below y5
  obtain ⟨At, ct, et⟩ := ht.form
  obtain ⟨nt, hnt⟩ : ∃ n, Hid ((setOf b).length = n) := ⟨_, rfl⟩
  rw [hnt.out] at et
  subst et
  clear HO2 y2 y3 y4 y5 b1 b2 b3 b4
  go_upto_region 5 with fail
  have hX : Blk ((w5.alloc (.cells #[.slice As ns cs] 26)).alloc (.cells #[.slice At nt ct] 26)) w5.heap.size 26 #[.slice As ns cs] := (Blk.new w5 26 _).alloc _
  have hY := blk_two w5 (.cells #[.slice As ns cs] 26) 26 #[.slice At nt ct]
  have y6 := below_step (below_new w5 (.cells #[.slice As ns cs] 26)) (below_new _ (.cells #[.slice At nt ct] 26))
  have b6 := below_step b5 y6
  have ta := ta.below y6
  have tb := tb.below y6
  have hs := hs.below y6
  have ht := ht.below y6
  generalize (w5.alloc (.cells #[.slice As ns cs] 26)).alloc (.cells #[.slice At nt ct] 26) = W at *
  have hla : a.length ≤ 40 := hfl
  have hlb : b.length ≤ 40 := hfm
  have hsa := setOf_le a
  have hsb := setOf_le b
  have rS := setOf_rise a
  have rT := setOf_rise b
  have HS1 : Hid (∀ W' vk, Below W.heap.size W W' → IsK W' vk [1] → Calls Try.prog 10 #[.slice Aa na qa, .slice none 0 0, vk] W' (RetT (setOf a) W')) := Lib.hid fun W' vk h1 h2 => sorted_own _ vk a W' (ta.below h1) h2 hla
  have HSO : Hid (∀ W' vk, Below W.heap.size W W' → IsK W' vk [1, 2, 3] → Calls Try.prog 10 #[.slice Aa na qa, .slice Ab nb qb, vk] W' (RetT (keepOf [-1, 0, 1] (sidesOf (setOf a) (setOf b))) W')) := Lib.hid fun W' vk h1 h2 => sorted_keep _ _ vk a b [1, 2, 3] [-1, 0, 1] W' (ta.below h1) (tb.below h1) h2 hla hlb (by decide) (by decide) (by decide)
  have HSA : Hid (∀ W' vk, Below W.heap.size W W' → IsK W' vk [3] → Calls Try.prog 10 #[.slice Aa na qa, .slice Ab nb qb, vk] W' (RetT (keepOf [0] (sidesOf (setOf a) (setOf b))) W')) := Lib.hid fun W' vk h1 h2 => sorted_keep _ _ vk a b [3] [0] W' (ta.below h1) (tb.below h1) h2 hla hlb (by decide) (by decide) (by decide)
  have HSL : Hid (∀ W' vk, Below W.heap.size W W' → IsK W' vk [1] → Calls Try.prog 10 #[.slice Aa na qa, .slice Ab nb qb, vk] W' (RetT (keepOf [-1] (sidesOf (setOf a) (setOf b))) W')) := Lib.hid fun W' vk h1 h2 => sorted_keep _ _ vk a b [1] [-1] W' (ta.below h1) (tb.below h1) h2 hla hlb (by decide) (by decide) (by decide)
  have HSX : Hid (∀ W' vk, Below W.heap.size W W' → IsK W' vk [1, 2] → Calls Try.prog 10 #[.slice Aa na qa, .slice Ab nb qb, vk] W' (RetT (keepOf [-1, 1] (sidesOf (setOf a) (setOf b))) W')) := Lib.hid fun W' vk h1 h2 => sorted_keep _ _ vk a b [1, 2] [-1, 1] W' (ta.below h1) (tb.below h1) h2 hla hlb (by decide) (by decide) (by decide)
  have HMO : Hid (∀ W', Below W.heap.size W W' → Calls Try.prog 11 #[.agg #[.slice As ns cs], .agg #[.slice At nt ct]] W' (RetS (keepOf [-1, 0, 1] (sidesOf (setOf a) (setOf b))) W')) := Lib.hid fun W' h1 => or_any _ _ (setOf a) (setOf b) W' (hs.below h1) (ht.below h1) (by omega)
  have HMA : Hid (∀ W', Below W.heap.size W W' → Calls Try.prog 12 #[.agg #[.slice As ns cs], .agg #[.slice At nt ct]] W' (RetS (keepOf [0] (sidesOf (setOf a) (setOf b))) W')) := Lib.hid fun W' h1 => and_any _ _ (setOf a) (setOf b) W' (hs.below h1) (ht.below h1) (by omega)
  have HML : Hid (∀ W', Below W.heap.size W W' → Calls Try.prog 13 #[.agg #[.slice As ns cs], .agg #[.slice At nt ct]] W' (RetS (keepOf [-1] (sidesOf (setOf a) (setOf b))) W')) := Lib.hid fun W' h1 => less_any _ _ (setOf a) (setOf b) W' (hs.below h1) (ht.below h1) (by omega)
  have HMX : Hid (∀ W', Below W.heap.size W W' → Calls Try.prog 14 #[.agg #[.slice As ns cs], .agg #[.slice At nt ct]] W' (RetS (keepOf [-1, 1] (sidesOf (setOf a) (setOf b))) W')) := Lib.hid fun W' h1 => xor_any _ _ (setOf a) (setOf b) W' (hs.below h1) (ht.below h1) (by omega)
  have HIS : Hid (∀ W' v vw l, IsS W' v l → IsT W' vw l → Calls Try.prog 9 #[v, vw] W' (RetV (.bool true) W')) := Lib.hid fun W' v vw l h1 h2 => is_yes v vw l W' h1 h2
  have HWI : Hid (∀ W', Below W.heap.size W W' → Calls Try.prog 15 #[.agg #[.slice As ns cs], .agg #[.slice At nt ct]] W' (RetV (.bool ((keepOf [-1] (sidesOf (setOf a) (setOf b))).length == 0)) W')) := Lib.hid fun W' h1 => by
    have := within_any _ _ (setOf a) (setOf b) W' (hs.below h1) (ht.below h1)
    rw [within_keep] at this
    exact this
  have HSM : Hid (∀ W', Below W.heap.size W W' → Calls Try.prog 16 #[.agg #[.slice As ns cs], .agg #[.slice At nt ct]] W' (RetV (.bool ((keepOf [-1, 1] (sidesOf (setOf a) (setOf b))).length == 0)) W')) := Lib.hid fun W' h1 => by
    have := same_any _ _ (setOf a) (setOf b) W' (hs.below h1) (ht.below h1)
    rw [same_keep rS rT] at this
    exact this
  generalize keepOf [-1, 0, 1] (sidesOf (setOf a) (setOf b)) = KO at *
  generalize keepOf [0] (sidesOf (setOf a) (setOf b)) = KA at *
  generalize keepOf [-1] (sidesOf (setOf a) (setOf b)) = KL at *
  generalize keepOf [-1, 1] (sidesOf (setOf a) (setOf b)) = KX at *
  generalize setOf a = S at *
  generalize w5.heap.size = gx at *
  clear ta tb ht hsa hsb rS rT y6 b5 hfl hfm
  go_cut [66] (fun c wx => c = .bool false ∧ Below W.heap.size W wx)
  case first =>
    clear HWI HSM
    have HX := Lib.hid hX
    have HY := Lib.hid hY
    have HSS := Lib.hid hs
    clear hX hY hs
    generalize hs0 : Value.slice As ns cs = s0 at *
    generalize ht0 : Value.slice At nt ct = t0 at *
    generalize hva : Value.slice Aa na qa = va at *
    generalize hvb : Value.slice Ab nb qb = vb at *
    clear hs0 ht0 hva hvb
    refine wp_region_slots (base := 17) (n := 50) (m := 89) (fr := _) (R := fun i w v => ((tblA s0 t0 va vb S KO KA KL KX).getD i (.eq undef)).ok w v) (by kernel_rfl) rfl (by decide) (by kernel_rfl) (fun j v w w' hb h => Wd.stable hb h) rfl rfl (fun k _ => rfl) ?opsQ ?finQ
    case opsQ =>
      refine ⟨⟨rfl, fun l a w' hI hdeps => ⟨?_, fun K hK => ?_⟩⟩, ?_⟩
      · exact wanted_none rfl
      · have hbw : Below W.heap.size W w' := ⟨hI.below.os, hI.below.tape, hI.below.output, hI.below.size, hI.below.block⟩
        have e5 : a.tmps.getD 5 undef = .pointer (some ⟨gx, 0, none⟩) := hI.low 5 (by decide)
        exact wp_load26 rfl e5 ((HX.out.on hbw).cell0) (hK _ _ (Below.refl _ _) rfl)
      refine ⟨⟨rfl, fun l a w' hI hdeps => ⟨?_, fun K hK => ?_⟩⟩, ?_⟩
      · exact wanted_none rfl
      · have hbw : Below W.heap.size W w' := ⟨hI.below.os, hI.below.tape, hI.below.output, hI.below.size, hI.below.block⟩
        have e0 : a.tmps.getD 0 undef = va := hI.low 0 (by decide)
        exact wp_move rfl (hK _ _ (Below.refl _ _) e0)
      refine ⟨⟨rfl, fun l a w' hI hdeps => ⟨?_, fun K hK => ?_⟩⟩, ?_⟩
      · exact wanted_none rfl
      · have hbw : Below W.heap.size W w' := ⟨hI.below.os, hI.below.tape, hI.below.output, hI.below.size, hI.below.block⟩
        exact wp_kinds1 rfl (hK _ _ (below_new w' _) (isK_1 w'))
      refine ⟨⟨rfl, fun l a w' hI hdeps => ⟨?_, fun K hK => ?_⟩⟩, ?_⟩
      · exact wanted_none rfl
      · have hbw : Below W.heap.size W w' := ⟨hI.below.os, hI.below.tape, hI.below.output, hI.below.size, hI.below.block⟩
        have e18 : a.tmps.getD 18 undef = va := hI.rel 1 (by decide) (hdeps ⟨1, .data⟩ (by simp) rfl)
        have r19 : IsK w' (a.tmps.getD 19 undef) [1] := hI.rel 2 (by decide) (hdeps ⟨2, .data⟩ (by simp) rfl)
        refine wp_call_n rfl (enters_of Try.func10 (by kernel_rfl) rfl) ?_
        rw [e18]
        refine (HS1.out _ _ hbw r19).mono ?_
        rintro e w'' ⟨v, rfl, hv, y⟩
        exact ⟨_, rfl, hK _ _ y hv⟩
      refine ⟨⟨rfl, fun l a w' hI hdeps => ⟨?_, fun K hK => ?_⟩⟩, ?_⟩
      · exact wanted_none rfl
      · have hbw : Below W.heap.size W w' := ⟨hI.below.os, hI.below.tape, hI.below.output, hI.below.size, hI.below.block⟩
        have e17 : a.tmps.getD 17 undef = .agg #[s0] := hI.rel 0 (by decide) (hdeps ⟨0, .data⟩ (by simp) rfl)
        have r20 : IsT w' (a.tmps.getD 20 undef) S := hI.rel 3 (by decide) (hdeps ⟨3, .data⟩ (by simp) rfl)
        refine wp_call2 rfl (enters_of Try.func9 (by kernel_rfl) rfl) ?_
        refine (HIS.out _ _ _ S (by rw [e17]; exact HSS.out.below hbw) r20).mono ?_
        rintro e w'' ⟨rfl, y⟩
        exact ⟨_, rfl, hK _ _ y rfl⟩
      refine ⟨⟨rfl, fun l a w' hI hdeps => ⟨?_, fun K hK => ?_⟩⟩, ?_⟩
      · exact wanted_none rfl
      · have hbw : Below W.heap.size W w' := ⟨hI.below.os, hI.below.tape, hI.below.output, hI.below.size, hI.below.block⟩
        have e21 : a.tmps.getD 21 undef = .bool true := hI.rel 4 (by decide) (hdeps ⟨4, .data⟩ (by simp) rfl)
        exact wp_not rfl e21 (hK _ _ (Below.refl _ _) rfl)
      refine ⟨⟨rfl, fun l a w' hI hdeps => ⟨?_, fun K hK => ?_⟩⟩, ?_⟩
      · exact wanted_none rfl
      · have hbw : Below W.heap.size W w' := ⟨hI.below.os, hI.below.tape, hI.below.output, hI.below.size, hI.below.block⟩
        have e22 : a.tmps.getD 22 undef = .bool false := hI.rel 5 (by decide) (hdeps ⟨5, .data⟩ (by simp) rfl)
        exact wp_move rfl (hK _ _ (Below.refl _ _) e22)
      refine ⟨⟨rfl, fun l a w' hI hdeps => ⟨?_, fun K hK => ?_⟩⟩, ?_⟩
      · exact wanted_some (d := 23) rfl rfl rfl (by rw [hI.slots]; decide) (hI.rel 6 (by decide) (hdeps ⟨6, .guard⟩ (by simp) rfl))
      · have hbw : Below W.heap.size W w' := ⟨hI.below.os, hI.below.tape, hI.below.output, hI.below.size, hI.below.block⟩
        have e5 : a.tmps.getD 5 undef = .pointer (some ⟨gx, 0, none⟩) := hI.low 5 (by decide)
        exact wp_load26 rfl e5 ((HX.out.on hbw).cell0) (hK _ _ (Below.refl _ _) rfl)
      refine ⟨⟨rfl, fun l a w' hI hdeps => ⟨?_, fun K hK => ?_⟩⟩, ?_⟩
      · exact wanted_some (d := 23) rfl rfl rfl (by rw [hI.slots]; decide) (hI.rel 6 (by decide) (hdeps ⟨6, .guard⟩ (by simp) rfl))
      · have hbw : Below W.heap.size W w' := ⟨hI.below.os, hI.below.tape, hI.below.output, hI.below.size, hI.below.block⟩
        have e6 : a.tmps.getD 6 undef = .pointer (some ⟨gx + 1, 0, none⟩) := hI.low 6 (by decide)
        exact wp_load26 rfl e6 ((HY.out.on hbw).cell0) (hK _ _ (Below.refl _ _) rfl)
      refine ⟨⟨rfl, fun l a w' hI hdeps => ⟨?_, fun K hK => ?_⟩⟩, ?_⟩
      · exact wanted_some (d := 23) rfl rfl rfl (by rw [hI.slots]; decide) (hI.rel 6 (by decide) (hdeps ⟨6, .guard⟩ (by simp) rfl))
      · have hbw : Below W.heap.size W w' := ⟨hI.below.os, hI.below.tape, hI.below.output, hI.below.size, hI.below.block⟩
        have e24 : a.tmps.getD 24 undef = .agg #[s0] := hI.rel 7 (by decide) (hdeps ⟨7, .data⟩ (by simp) rfl)
        have e25 : a.tmps.getD 25 undef = .agg #[t0] := hI.rel 8 (by decide) (hdeps ⟨8, .data⟩ (by simp) rfl)
        refine wp_call2 rfl (enters_of Try.func11 (by kernel_rfl) rfl) ?_
        rw [e24, e25]
        refine (HMO.out _ hbw).mono ?_
        rintro e w'' ⟨v, rfl, hv, y⟩
        exact ⟨_, rfl, hK _ _ y hv⟩
      refine ⟨⟨rfl, fun l a w' hI hdeps => ⟨?_, fun K hK => ?_⟩⟩, ?_⟩
      · exact wanted_some (d := 23) rfl rfl rfl (by rw [hI.slots]; decide) (hI.rel 6 (by decide) (hdeps ⟨6, .guard⟩ (by simp) rfl))
      · have hbw : Below W.heap.size W w' := ⟨hI.below.os, hI.below.tape, hI.below.output, hI.below.size, hI.below.block⟩
        have e0 : a.tmps.getD 0 undef = va := hI.low 0 (by decide)
        exact wp_move rfl (hK _ _ (Below.refl _ _) e0)
      refine ⟨⟨rfl, fun l a w' hI hdeps => ⟨?_, fun K hK => ?_⟩⟩, ?_⟩
      · exact wanted_some (d := 23) rfl rfl rfl (by rw [hI.slots]; decide) (hI.rel 6 (by decide) (hdeps ⟨6, .guard⟩ (by simp) rfl))
      · have hbw : Below W.heap.size W w' := ⟨hI.below.os, hI.below.tape, hI.below.output, hI.below.size, hI.below.block⟩
        have e1 : a.tmps.getD 1 undef = vb := hI.low 1 (by decide)
        exact wp_move rfl (hK _ _ (Below.refl _ _) e1)
      refine ⟨⟨rfl, fun l a w' hI hdeps => ⟨?_, fun K hK => ?_⟩⟩, ?_⟩
      · exact wanted_some (d := 23) rfl rfl rfl (by rw [hI.slots]; decide) (hI.rel 6 (by decide) (hdeps ⟨6, .guard⟩ (by simp) rfl))
      · have hbw : Below W.heap.size W w' := ⟨hI.below.os, hI.below.tape, hI.below.output, hI.below.size, hI.below.block⟩
        exact wp_kinds3 rfl (hK _ _ (below_new w' _) (isK_123 w'))
      refine ⟨⟨rfl, fun l a w' hI hdeps => ⟨?_, fun K hK => ?_⟩⟩, ?_⟩
      · exact wanted_some (d := 23) rfl rfl rfl (by rw [hI.slots]; decide) (hI.rel 6 (by decide) (hdeps ⟨6, .guard⟩ (by simp) rfl))
      · have hbw : Below W.heap.size W w' := ⟨hI.below.os, hI.below.tape, hI.below.output, hI.below.size, hI.below.block⟩
        have e27 : a.tmps.getD 27 undef = va := hI.rel 10 (by decide) (hdeps ⟨10, .data⟩ (by simp) rfl)
        have e28 : a.tmps.getD 28 undef = vb := hI.rel 11 (by decide) (hdeps ⟨11, .data⟩ (by simp) rfl)
        have r29 : IsK w' (a.tmps.getD 29 undef) [1, 2, 3] := hI.rel 12 (by decide) (hdeps ⟨12, .data⟩ (by simp) rfl)
        refine wp_call3 rfl (enters_of Try.func10 (by kernel_rfl) rfl) ?_
        rw [e27, e28]
        refine (HSO.out _ _ hbw r29).mono ?_
        rintro e w'' ⟨v, rfl, hv, y⟩
        exact ⟨_, rfl, hK _ _ y hv⟩
      refine ⟨⟨rfl, fun l a w' hI hdeps => ⟨?_, fun K hK => ?_⟩⟩, ?_⟩
      · exact wanted_some (d := 23) rfl rfl rfl (by rw [hI.slots]; decide) (hI.rel 6 (by decide) (hdeps ⟨6, .guard⟩ (by simp) rfl))
      · have hbw : Below W.heap.size W w' := ⟨hI.below.os, hI.below.tape, hI.below.output, hI.below.size, hI.below.block⟩
        have r26 : IsS w' (a.tmps.getD 26 undef) KO := hI.rel 9 (by decide) (hdeps ⟨9, .data⟩ (by simp) rfl)
        have r30 : IsT w' (a.tmps.getD 30 undef) KO := hI.rel 13 (by decide) (hdeps ⟨13, .data⟩ (by simp) rfl)
        refine wp_call2 rfl (enters_of Try.func9 (by kernel_rfl) rfl) ?_
        refine (HIS.out _ _ _ KO r26 r30).mono ?_
        rintro e w'' ⟨rfl, y⟩
        exact ⟨_, rfl, hK _ _ y rfl⟩
      refine ⟨⟨rfl, fun l a w' hI hdeps => ⟨?_, fun K hK => ?_⟩⟩, ?_⟩
      · exact wanted_some (d := 23) rfl rfl rfl (by rw [hI.slots]; decide) (hI.rel 6 (by decide) (hdeps ⟨6, .guard⟩ (by simp) rfl))
      · have hbw : Below W.heap.size W w' := ⟨hI.below.os, hI.below.tape, hI.below.output, hI.below.size, hI.below.block⟩
        have e31 : a.tmps.getD 31 undef = .bool true := hI.rel 14 (by decide) (hdeps ⟨14, .data⟩ (by simp) rfl)
        exact wp_not rfl e31 (hK _ _ (Below.refl _ _) rfl)
      refine ⟨⟨rfl, fun l a w' hI hdeps => ⟨?_, fun K hK => ?_⟩⟩, ?_⟩
      · exact wanted_none rfl
      · have hbw : Below W.heap.size W w' := ⟨hI.below.os, hI.below.tape, hI.below.output, hI.below.size, hI.below.block⟩
        have e23 : a.tmps.getD 23 undef = .bool false := hI.rel 6 (by decide) (hdeps ⟨6, .data⟩ (by simp) rfl)
        have e32 : a.tmps.getD 32 undef = .bool false := hI.rel 15 (by decide) (hdeps ⟨15, .data⟩ (by simp) rfl)
        exact wp_pick rfl e23 (hK _ _ (Below.refl _ _) e32)
      refine ⟨⟨rfl, fun l a w' hI hdeps => ⟨?_, fun K hK => ?_⟩⟩, ?_⟩
      · exact wanted_none rfl
      · have hbw : Below W.heap.size W w' := ⟨hI.below.os, hI.below.tape, hI.below.output, hI.below.size, hI.below.block⟩
        have e33 : a.tmps.getD 33 undef = .bool false := hI.rel 16 (by decide) (hdeps ⟨16, .data⟩ (by simp) rfl)
        exact wp_move rfl (hK _ _ (Below.refl _ _) e33)
      refine ⟨⟨rfl, fun l a w' hI hdeps => ⟨?_, fun K hK => ?_⟩⟩, ?_⟩
      · exact wanted_some (d := 34) rfl rfl rfl (by rw [hI.slots]; decide) (hI.rel 17 (by decide) (hdeps ⟨17, .guard⟩ (by simp) rfl))
      · have hbw : Below W.heap.size W w' := ⟨hI.below.os, hI.below.tape, hI.below.output, hI.below.size, hI.below.block⟩
        have e5 : a.tmps.getD 5 undef = .pointer (some ⟨gx, 0, none⟩) := hI.low 5 (by decide)
        exact wp_load26 rfl e5 ((HX.out.on hbw).cell0) (hK _ _ (Below.refl _ _) rfl)
      refine ⟨⟨rfl, fun l a w' hI hdeps => ⟨?_, fun K hK => ?_⟩⟩, ?_⟩
      · exact wanted_some (d := 34) rfl rfl rfl (by rw [hI.slots]; decide) (hI.rel 17 (by decide) (hdeps ⟨17, .guard⟩ (by simp) rfl))
      · have hbw : Below W.heap.size W w' := ⟨hI.below.os, hI.below.tape, hI.below.output, hI.below.size, hI.below.block⟩
        have e6 : a.tmps.getD 6 undef = .pointer (some ⟨gx + 1, 0, none⟩) := hI.low 6 (by decide)
        exact wp_load26 rfl e6 ((HY.out.on hbw).cell0) (hK _ _ (Below.refl _ _) rfl)
      refine ⟨⟨rfl, fun l a w' hI hdeps => ⟨?_, fun K hK => ?_⟩⟩, ?_⟩
      · exact wanted_some (d := 34) rfl rfl rfl (by rw [hI.slots]; decide) (hI.rel 17 (by decide) (hdeps ⟨17, .guard⟩ (by simp) rfl))
      · have hbw : Below W.heap.size W w' := ⟨hI.below.os, hI.below.tape, hI.below.output, hI.below.size, hI.below.block⟩
        have e35 : a.tmps.getD 35 undef = .agg #[s0] := hI.rel 18 (by decide) (hdeps ⟨18, .data⟩ (by simp) rfl)
        have e36 : a.tmps.getD 36 undef = .agg #[t0] := hI.rel 19 (by decide) (hdeps ⟨19, .data⟩ (by simp) rfl)
        refine wp_call2 rfl (enters_of Try.func12 (by kernel_rfl) rfl) ?_
        rw [e35, e36]
        refine (HMA.out _ hbw).mono ?_
        rintro e w'' ⟨v, rfl, hv, y⟩
        exact ⟨_, rfl, hK _ _ y hv⟩
      refine ⟨⟨rfl, fun l a w' hI hdeps => ⟨?_, fun K hK => ?_⟩⟩, ?_⟩
      · exact wanted_some (d := 34) rfl rfl rfl (by rw [hI.slots]; decide) (hI.rel 17 (by decide) (hdeps ⟨17, .guard⟩ (by simp) rfl))
      · have hbw : Below W.heap.size W w' := ⟨hI.below.os, hI.below.tape, hI.below.output, hI.below.size, hI.below.block⟩
        have e0 : a.tmps.getD 0 undef = va := hI.low 0 (by decide)
        exact wp_move rfl (hK _ _ (Below.refl _ _) e0)
      refine ⟨⟨rfl, fun l a w' hI hdeps => ⟨?_, fun K hK => ?_⟩⟩, ?_⟩
      · exact wanted_some (d := 34) rfl rfl rfl (by rw [hI.slots]; decide) (hI.rel 17 (by decide) (hdeps ⟨17, .guard⟩ (by simp) rfl))
      · have hbw : Below W.heap.size W w' := ⟨hI.below.os, hI.below.tape, hI.below.output, hI.below.size, hI.below.block⟩
        have e1 : a.tmps.getD 1 undef = vb := hI.low 1 (by decide)
        exact wp_move rfl (hK _ _ (Below.refl _ _) e1)
      refine ⟨⟨rfl, fun l a w' hI hdeps => ⟨?_, fun K hK => ?_⟩⟩, ?_⟩
      · exact wanted_some (d := 34) rfl rfl rfl (by rw [hI.slots]; decide) (hI.rel 17 (by decide) (hdeps ⟨17, .guard⟩ (by simp) rfl))
      · have hbw : Below W.heap.size W w' := ⟨hI.below.os, hI.below.tape, hI.below.output, hI.below.size, hI.below.block⟩
        exact wp_kinds1 rfl (hK _ _ (below_new w' _) (isK_3 w'))
      refine ⟨⟨rfl, fun l a w' hI hdeps => ⟨?_, fun K hK => ?_⟩⟩, ?_⟩
      · exact wanted_some (d := 34) rfl rfl rfl (by rw [hI.slots]; decide) (hI.rel 17 (by decide) (hdeps ⟨17, .guard⟩ (by simp) rfl))
      · have hbw : Below W.heap.size W w' := ⟨hI.below.os, hI.below.tape, hI.below.output, hI.below.size, hI.below.block⟩
        have e38 : a.tmps.getD 38 undef = va := hI.rel 21 (by decide) (hdeps ⟨21, .data⟩ (by simp) rfl)
        have e39 : a.tmps.getD 39 undef = vb := hI.rel 22 (by decide) (hdeps ⟨22, .data⟩ (by simp) rfl)
        have r40 : IsK w' (a.tmps.getD 40 undef) [3] := hI.rel 23 (by decide) (hdeps ⟨23, .data⟩ (by simp) rfl)
        refine wp_call3 rfl (enters_of Try.func10 (by kernel_rfl) rfl) ?_
        rw [e38, e39]
        refine (HSA.out _ _ hbw r40).mono ?_
        rintro e w'' ⟨v, rfl, hv, y⟩
        exact ⟨_, rfl, hK _ _ y hv⟩
      refine ⟨⟨rfl, fun l a w' hI hdeps => ⟨?_, fun K hK => ?_⟩⟩, ?_⟩
      · exact wanted_some (d := 34) rfl rfl rfl (by rw [hI.slots]; decide) (hI.rel 17 (by decide) (hdeps ⟨17, .guard⟩ (by simp) rfl))
      · have hbw : Below W.heap.size W w' := ⟨hI.below.os, hI.below.tape, hI.below.output, hI.below.size, hI.below.block⟩
        have r37 : IsS w' (a.tmps.getD 37 undef) KA := hI.rel 20 (by decide) (hdeps ⟨20, .data⟩ (by simp) rfl)
        have r41 : IsT w' (a.tmps.getD 41 undef) KA := hI.rel 24 (by decide) (hdeps ⟨24, .data⟩ (by simp) rfl)
        refine wp_call2 rfl (enters_of Try.func9 (by kernel_rfl) rfl) ?_
        refine (HIS.out _ _ _ KA r37 r41).mono ?_
        rintro e w'' ⟨rfl, y⟩
        exact ⟨_, rfl, hK _ _ y rfl⟩
      refine ⟨⟨rfl, fun l a w' hI hdeps => ⟨?_, fun K hK => ?_⟩⟩, ?_⟩
      · exact wanted_some (d := 34) rfl rfl rfl (by rw [hI.slots]; decide) (hI.rel 17 (by decide) (hdeps ⟨17, .guard⟩ (by simp) rfl))
      · have hbw : Below W.heap.size W w' := ⟨hI.below.os, hI.below.tape, hI.below.output, hI.below.size, hI.below.block⟩
        have e42 : a.tmps.getD 42 undef = .bool true := hI.rel 25 (by decide) (hdeps ⟨25, .data⟩ (by simp) rfl)
        exact wp_not rfl e42 (hK _ _ (Below.refl _ _) rfl)
      refine ⟨⟨rfl, fun l a w' hI hdeps => ⟨?_, fun K hK => ?_⟩⟩, ?_⟩
      · exact wanted_none rfl
      · have hbw : Below W.heap.size W w' := ⟨hI.below.os, hI.below.tape, hI.below.output, hI.below.size, hI.below.block⟩
        have e34 : a.tmps.getD 34 undef = .bool false := hI.rel 17 (by decide) (hdeps ⟨17, .data⟩ (by simp) rfl)
        have e43 : a.tmps.getD 43 undef = .bool false := hI.rel 26 (by decide) (hdeps ⟨26, .data⟩ (by simp) rfl)
        exact wp_pick rfl e34 (hK _ _ (Below.refl _ _) e43)
      refine ⟨⟨rfl, fun l a w' hI hdeps => ⟨?_, fun K hK => ?_⟩⟩, ?_⟩
      · exact wanted_none rfl
      · have hbw : Below W.heap.size W w' := ⟨hI.below.os, hI.below.tape, hI.below.output, hI.below.size, hI.below.block⟩
        have e44 : a.tmps.getD 44 undef = .bool false := hI.rel 27 (by decide) (hdeps ⟨27, .data⟩ (by simp) rfl)
        exact wp_move rfl (hK _ _ (Below.refl _ _) e44)
      refine ⟨⟨rfl, fun l a w' hI hdeps => ⟨?_, fun K hK => ?_⟩⟩, ?_⟩
      · exact wanted_some (d := 45) rfl rfl rfl (by rw [hI.slots]; decide) (hI.rel 28 (by decide) (hdeps ⟨28, .guard⟩ (by simp) rfl))
      · have hbw : Below W.heap.size W w' := ⟨hI.below.os, hI.below.tape, hI.below.output, hI.below.size, hI.below.block⟩
        have e5 : a.tmps.getD 5 undef = .pointer (some ⟨gx, 0, none⟩) := hI.low 5 (by decide)
        exact wp_load26 rfl e5 ((HX.out.on hbw).cell0) (hK _ _ (Below.refl _ _) rfl)
      refine ⟨⟨rfl, fun l a w' hI hdeps => ⟨?_, fun K hK => ?_⟩⟩, ?_⟩
      · exact wanted_some (d := 45) rfl rfl rfl (by rw [hI.slots]; decide) (hI.rel 28 (by decide) (hdeps ⟨28, .guard⟩ (by simp) rfl))
      · have hbw : Below W.heap.size W w' := ⟨hI.below.os, hI.below.tape, hI.below.output, hI.below.size, hI.below.block⟩
        have e6 : a.tmps.getD 6 undef = .pointer (some ⟨gx + 1, 0, none⟩) := hI.low 6 (by decide)
        exact wp_load26 rfl e6 ((HY.out.on hbw).cell0) (hK _ _ (Below.refl _ _) rfl)
      refine ⟨⟨rfl, fun l a w' hI hdeps => ⟨?_, fun K hK => ?_⟩⟩, ?_⟩
      · exact wanted_some (d := 45) rfl rfl rfl (by rw [hI.slots]; decide) (hI.rel 28 (by decide) (hdeps ⟨28, .guard⟩ (by simp) rfl))
      · have hbw : Below W.heap.size W w' := ⟨hI.below.os, hI.below.tape, hI.below.output, hI.below.size, hI.below.block⟩
        have e46 : a.tmps.getD 46 undef = .agg #[s0] := hI.rel 29 (by decide) (hdeps ⟨29, .data⟩ (by simp) rfl)
        have e47 : a.tmps.getD 47 undef = .agg #[t0] := hI.rel 30 (by decide) (hdeps ⟨30, .data⟩ (by simp) rfl)
        refine wp_call2 rfl (enters_of Try.func13 (by kernel_rfl) rfl) ?_
        rw [e46, e47]
        refine (HML.out _ hbw).mono ?_
        rintro e w'' ⟨v, rfl, hv, y⟩
        exact ⟨_, rfl, hK _ _ y hv⟩
      refine ⟨⟨rfl, fun l a w' hI hdeps => ⟨?_, fun K hK => ?_⟩⟩, ?_⟩
      · exact wanted_some (d := 45) rfl rfl rfl (by rw [hI.slots]; decide) (hI.rel 28 (by decide) (hdeps ⟨28, .guard⟩ (by simp) rfl))
      · have hbw : Below W.heap.size W w' := ⟨hI.below.os, hI.below.tape, hI.below.output, hI.below.size, hI.below.block⟩
        have e0 : a.tmps.getD 0 undef = va := hI.low 0 (by decide)
        exact wp_move rfl (hK _ _ (Below.refl _ _) e0)
      refine ⟨⟨rfl, fun l a w' hI hdeps => ⟨?_, fun K hK => ?_⟩⟩, ?_⟩
      · exact wanted_some (d := 45) rfl rfl rfl (by rw [hI.slots]; decide) (hI.rel 28 (by decide) (hdeps ⟨28, .guard⟩ (by simp) rfl))
      · have hbw : Below W.heap.size W w' := ⟨hI.below.os, hI.below.tape, hI.below.output, hI.below.size, hI.below.block⟩
        have e1 : a.tmps.getD 1 undef = vb := hI.low 1 (by decide)
        exact wp_move rfl (hK _ _ (Below.refl _ _) e1)
      refine ⟨⟨rfl, fun l a w' hI hdeps => ⟨?_, fun K hK => ?_⟩⟩, ?_⟩
      · exact wanted_some (d := 45) rfl rfl rfl (by rw [hI.slots]; decide) (hI.rel 28 (by decide) (hdeps ⟨28, .guard⟩ (by simp) rfl))
      · have hbw : Below W.heap.size W w' := ⟨hI.below.os, hI.below.tape, hI.below.output, hI.below.size, hI.below.block⟩
        exact wp_kinds1 rfl (hK _ _ (below_new w' _) (isK_1 w'))
      refine ⟨⟨rfl, fun l a w' hI hdeps => ⟨?_, fun K hK => ?_⟩⟩, ?_⟩
      · exact wanted_some (d := 45) rfl rfl rfl (by rw [hI.slots]; decide) (hI.rel 28 (by decide) (hdeps ⟨28, .guard⟩ (by simp) rfl))
      · have hbw : Below W.heap.size W w' := ⟨hI.below.os, hI.below.tape, hI.below.output, hI.below.size, hI.below.block⟩
        have e49 : a.tmps.getD 49 undef = va := hI.rel 32 (by decide) (hdeps ⟨32, .data⟩ (by simp) rfl)
        have e50 : a.tmps.getD 50 undef = vb := hI.rel 33 (by decide) (hdeps ⟨33, .data⟩ (by simp) rfl)
        have r51 : IsK w' (a.tmps.getD 51 undef) [1] := hI.rel 34 (by decide) (hdeps ⟨34, .data⟩ (by simp) rfl)
        refine wp_call3 rfl (enters_of Try.func10 (by kernel_rfl) rfl) ?_
        rw [e49, e50]
        refine (HSL.out _ _ hbw r51).mono ?_
        rintro e w'' ⟨v, rfl, hv, y⟩
        exact ⟨_, rfl, hK _ _ y hv⟩
      refine ⟨⟨rfl, fun l a w' hI hdeps => ⟨?_, fun K hK => ?_⟩⟩, ?_⟩
      · exact wanted_some (d := 45) rfl rfl rfl (by rw [hI.slots]; decide) (hI.rel 28 (by decide) (hdeps ⟨28, .guard⟩ (by simp) rfl))
      · have hbw : Below W.heap.size W w' := ⟨hI.below.os, hI.below.tape, hI.below.output, hI.below.size, hI.below.block⟩
        have r48 : IsS w' (a.tmps.getD 48 undef) KL := hI.rel 31 (by decide) (hdeps ⟨31, .data⟩ (by simp) rfl)
        have r52 : IsT w' (a.tmps.getD 52 undef) KL := hI.rel 35 (by decide) (hdeps ⟨35, .data⟩ (by simp) rfl)
        refine wp_call2 rfl (enters_of Try.func9 (by kernel_rfl) rfl) ?_
        refine (HIS.out _ _ _ KL r48 r52).mono ?_
        rintro e w'' ⟨rfl, y⟩
        exact ⟨_, rfl, hK _ _ y rfl⟩
      refine ⟨⟨rfl, fun l a w' hI hdeps => ⟨?_, fun K hK => ?_⟩⟩, ?_⟩
      · exact wanted_some (d := 45) rfl rfl rfl (by rw [hI.slots]; decide) (hI.rel 28 (by decide) (hdeps ⟨28, .guard⟩ (by simp) rfl))
      · have hbw : Below W.heap.size W w' := ⟨hI.below.os, hI.below.tape, hI.below.output, hI.below.size, hI.below.block⟩
        have e53 : a.tmps.getD 53 undef = .bool true := hI.rel 36 (by decide) (hdeps ⟨36, .data⟩ (by simp) rfl)
        exact wp_not rfl e53 (hK _ _ (Below.refl _ _) rfl)
      refine ⟨⟨rfl, fun l a w' hI hdeps => ⟨?_, fun K hK => ?_⟩⟩, ?_⟩
      · exact wanted_none rfl
      · have hbw : Below W.heap.size W w' := ⟨hI.below.os, hI.below.tape, hI.below.output, hI.below.size, hI.below.block⟩
        have e45 : a.tmps.getD 45 undef = .bool false := hI.rel 28 (by decide) (hdeps ⟨28, .data⟩ (by simp) rfl)
        have e54 : a.tmps.getD 54 undef = .bool false := hI.rel 37 (by decide) (hdeps ⟨37, .data⟩ (by simp) rfl)
        exact wp_pick rfl e45 (hK _ _ (Below.refl _ _) e54)
      refine ⟨⟨rfl, fun l a w' hI hdeps => ⟨?_, fun K hK => ?_⟩⟩, ?_⟩
      · exact wanted_none rfl
      · have hbw : Below W.heap.size W w' := ⟨hI.below.os, hI.below.tape, hI.below.output, hI.below.size, hI.below.block⟩
        have e55 : a.tmps.getD 55 undef = .bool false := hI.rel 38 (by decide) (hdeps ⟨38, .data⟩ (by simp) rfl)
        exact wp_move rfl (hK _ _ (Below.refl _ _) e55)
      refine ⟨⟨rfl, fun l a w' hI hdeps => ⟨?_, fun K hK => ?_⟩⟩, ?_⟩
      · exact wanted_some (d := 56) rfl rfl rfl (by rw [hI.slots]; decide) (hI.rel 39 (by decide) (hdeps ⟨39, .guard⟩ (by simp) rfl))
      · have hbw : Below W.heap.size W w' := ⟨hI.below.os, hI.below.tape, hI.below.output, hI.below.size, hI.below.block⟩
        have e5 : a.tmps.getD 5 undef = .pointer (some ⟨gx, 0, none⟩) := hI.low 5 (by decide)
        exact wp_load26 rfl e5 ((HX.out.on hbw).cell0) (hK _ _ (Below.refl _ _) rfl)
      refine ⟨⟨rfl, fun l a w' hI hdeps => ⟨?_, fun K hK => ?_⟩⟩, ?_⟩
      · exact wanted_some (d := 56) rfl rfl rfl (by rw [hI.slots]; decide) (hI.rel 39 (by decide) (hdeps ⟨39, .guard⟩ (by simp) rfl))
      · have hbw : Below W.heap.size W w' := ⟨hI.below.os, hI.below.tape, hI.below.output, hI.below.size, hI.below.block⟩
        have e6 : a.tmps.getD 6 undef = .pointer (some ⟨gx + 1, 0, none⟩) := hI.low 6 (by decide)
        exact wp_load26 rfl e6 ((HY.out.on hbw).cell0) (hK _ _ (Below.refl _ _) rfl)
      refine ⟨⟨rfl, fun l a w' hI hdeps => ⟨?_, fun K hK => ?_⟩⟩, ?_⟩
      · exact wanted_some (d := 56) rfl rfl rfl (by rw [hI.slots]; decide) (hI.rel 39 (by decide) (hdeps ⟨39, .guard⟩ (by simp) rfl))
      · have hbw : Below W.heap.size W w' := ⟨hI.below.os, hI.below.tape, hI.below.output, hI.below.size, hI.below.block⟩
        have e57 : a.tmps.getD 57 undef = .agg #[s0] := hI.rel 40 (by decide) (hdeps ⟨40, .data⟩ (by simp) rfl)
        have e58 : a.tmps.getD 58 undef = .agg #[t0] := hI.rel 41 (by decide) (hdeps ⟨41, .data⟩ (by simp) rfl)
        refine wp_call2 rfl (enters_of Try.func14 (by kernel_rfl) rfl) ?_
        rw [e57, e58]
        refine (HMX.out _ hbw).mono ?_
        rintro e w'' ⟨v, rfl, hv, y⟩
        exact ⟨_, rfl, hK _ _ y hv⟩
      refine ⟨⟨rfl, fun l a w' hI hdeps => ⟨?_, fun K hK => ?_⟩⟩, ?_⟩
      · exact wanted_some (d := 56) rfl rfl rfl (by rw [hI.slots]; decide) (hI.rel 39 (by decide) (hdeps ⟨39, .guard⟩ (by simp) rfl))
      · have hbw : Below W.heap.size W w' := ⟨hI.below.os, hI.below.tape, hI.below.output, hI.below.size, hI.below.block⟩
        have e0 : a.tmps.getD 0 undef = va := hI.low 0 (by decide)
        exact wp_move rfl (hK _ _ (Below.refl _ _) e0)
      refine ⟨⟨rfl, fun l a w' hI hdeps => ⟨?_, fun K hK => ?_⟩⟩, ?_⟩
      · exact wanted_some (d := 56) rfl rfl rfl (by rw [hI.slots]; decide) (hI.rel 39 (by decide) (hdeps ⟨39, .guard⟩ (by simp) rfl))
      · have hbw : Below W.heap.size W w' := ⟨hI.below.os, hI.below.tape, hI.below.output, hI.below.size, hI.below.block⟩
        have e1 : a.tmps.getD 1 undef = vb := hI.low 1 (by decide)
        exact wp_move rfl (hK _ _ (Below.refl _ _) e1)
      refine ⟨⟨rfl, fun l a w' hI hdeps => ⟨?_, fun K hK => ?_⟩⟩, ?_⟩
      · exact wanted_some (d := 56) rfl rfl rfl (by rw [hI.slots]; decide) (hI.rel 39 (by decide) (hdeps ⟨39, .guard⟩ (by simp) rfl))
      · have hbw : Below W.heap.size W w' := ⟨hI.below.os, hI.below.tape, hI.below.output, hI.below.size, hI.below.block⟩
        exact wp_kinds2 rfl (hK _ _ (below_new w' _) (isK_12 w'))
      refine ⟨⟨rfl, fun l a w' hI hdeps => ⟨?_, fun K hK => ?_⟩⟩, ?_⟩
      · exact wanted_some (d := 56) rfl rfl rfl (by rw [hI.slots]; decide) (hI.rel 39 (by decide) (hdeps ⟨39, .guard⟩ (by simp) rfl))
      · have hbw : Below W.heap.size W w' := ⟨hI.below.os, hI.below.tape, hI.below.output, hI.below.size, hI.below.block⟩
        have e60 : a.tmps.getD 60 undef = va := hI.rel 43 (by decide) (hdeps ⟨43, .data⟩ (by simp) rfl)
        have e61 : a.tmps.getD 61 undef = vb := hI.rel 44 (by decide) (hdeps ⟨44, .data⟩ (by simp) rfl)
        have r62 : IsK w' (a.tmps.getD 62 undef) [1, 2] := hI.rel 45 (by decide) (hdeps ⟨45, .data⟩ (by simp) rfl)
        refine wp_call3 rfl (enters_of Try.func10 (by kernel_rfl) rfl) ?_
        rw [e60, e61]
        refine (HSX.out _ _ hbw r62).mono ?_
        rintro e w'' ⟨v, rfl, hv, y⟩
        exact ⟨_, rfl, hK _ _ y hv⟩
      refine ⟨⟨rfl, fun l a w' hI hdeps => ⟨?_, fun K hK => ?_⟩⟩, ?_⟩
      · exact wanted_some (d := 56) rfl rfl rfl (by rw [hI.slots]; decide) (hI.rel 39 (by decide) (hdeps ⟨39, .guard⟩ (by simp) rfl))
      · have hbw : Below W.heap.size W w' := ⟨hI.below.os, hI.below.tape, hI.below.output, hI.below.size, hI.below.block⟩
        have r59 : IsS w' (a.tmps.getD 59 undef) KX := hI.rel 42 (by decide) (hdeps ⟨42, .data⟩ (by simp) rfl)
        have r63 : IsT w' (a.tmps.getD 63 undef) KX := hI.rel 46 (by decide) (hdeps ⟨46, .data⟩ (by simp) rfl)
        refine wp_call2 rfl (enters_of Try.func9 (by kernel_rfl) rfl) ?_
        refine (HIS.out _ _ _ KX r59 r63).mono ?_
        rintro e w'' ⟨rfl, y⟩
        exact ⟨_, rfl, hK _ _ y rfl⟩
      refine ⟨⟨rfl, fun l a w' hI hdeps => ⟨?_, fun K hK => ?_⟩⟩, ?_⟩
      · exact wanted_some (d := 56) rfl rfl rfl (by rw [hI.slots]; decide) (hI.rel 39 (by decide) (hdeps ⟨39, .guard⟩ (by simp) rfl))
      · have hbw : Below W.heap.size W w' := ⟨hI.below.os, hI.below.tape, hI.below.output, hI.below.size, hI.below.block⟩
        have e64 : a.tmps.getD 64 undef = .bool true := hI.rel 47 (by decide) (hdeps ⟨47, .data⟩ (by simp) rfl)
        exact wp_not rfl e64 (hK _ _ (Below.refl _ _) rfl)
      refine ⟨⟨rfl, fun l a w' hI hdeps => ⟨?_, fun K hK => ?_⟩⟩, ?_⟩
      · exact wanted_none rfl
      · have hbw : Below W.heap.size W w' := ⟨hI.below.os, hI.below.tape, hI.below.output, hI.below.size, hI.below.block⟩
        have e56 : a.tmps.getD 56 undef = .bool false := hI.rel 39 (by decide) (hdeps ⟨39, .data⟩ (by simp) rfl)
        have e65 : a.tmps.getD 65 undef = .bool false := hI.rel 48 (by decide) (hdeps ⟨48, .data⟩ (by simp) rfl)
        exact wp_pick rfl e56 (hK _ _ (Below.refl _ _) e65)
      trivial
    case finQ =>
      rintro ⟨t, d⟩ w' hsz hd hbw hlow hhigh hrel
      have hd' : d = [] := hd
      have hsz' : t.size = 89 := hsz
      have e := arr_eta t 89 hsz'
      subst hd'
      change t = List.toArray (t.getD 0 undef :: t.getD 1 undef :: t.getD 2 undef :: t.getD 3 undef :: t.getD 4 undef :: t.getD 5 undef :: t.getD 6 undef :: t.getD 7 undef :: t.getD 8 undef :: t.getD 9 undef :: t.getD 10 undef :: t.getD 11 undef :: t.getD 12 undef :: t.getD 13 undef :: t.getD 14 undef :: t.getD 15 undef :: t.getD 16 undef :: t.getD 17 undef :: t.getD 18 undef :: t.getD 19 undef :: t.getD 20 undef :: t.getD 21 undef :: t.getD 22 undef :: t.getD 23 undef :: t.getD 24 undef :: t.getD 25 undef :: t.getD 26 undef :: t.getD 27 undef :: t.getD 28 undef :: t.getD 29 undef :: t.getD 30 undef :: t.getD 31 undef :: t.getD 32 undef :: t.getD 33 undef :: t.getD 34 undef :: t.getD 35 undef :: t.getD 36 undef :: t.getD 37 undef :: t.getD 38 undef :: t.getD 39 undef :: t.getD 40 undef :: t.getD 41 undef :: t.getD 42 undef :: t.getD 43 undef :: t.getD 44 undef :: t.getD 45 undef :: t.getD 46 undef :: t.getD 47 undef :: t.getD 48 undef :: t.getD 49 undef :: t.getD 50 undef :: t.getD 51 undef :: t.getD 52 undef :: t.getD 53 undef :: t.getD 54 undef :: t.getD 55 undef :: t.getD 56 undef :: t.getD 57 undef :: t.getD 58 undef :: t.getD 59 undef :: t.getD 60 undef :: t.getD 61 undef :: t.getD 62 undef :: t.getD 63 undef :: t.getD 64 undef :: t.getD 65 undef :: t.getD 66 undef :: t.getD 67 undef :: t.getD 68 undef :: t.getD 69 undef :: t.getD 70 undef :: t.getD 71 undef :: t.getD 72 undef :: t.getD 73 undef :: t.getD 74 undef :: t.getD 75 undef :: t.getD 76 undef :: t.getD 77 undef :: t.getD 78 undef :: t.getD 79 undef :: t.getD 80 undef :: t.getD 81 undef :: t.getD 82 undef :: t.getD 83 undef :: t.getD 84 undef :: t.getD 85 undef :: t.getD 86 undef :: t.getD 87 undef :: t.getD 88 undef :: []) at e
      have l0 : t.getD 0 undef = va := hlow 0 (by decide)
      have l1 : t.getD 1 undef = vb := hlow 1 (by decide)
      have l2 : t.getD 2 undef = undef := hlow 2 (by decide)
      have l3 : t.getD 3 undef = undef := hlow 3 (by decide)
      have l4 : t.getD 4 undef = .bool false := hlow 4 (by decide)
      have l5 : t.getD 5 undef = .pointer (some ⟨gx, 0, none⟩) := hlow 5 (by decide)
      have l6 : t.getD 6 undef = .pointer (some ⟨gx + 1, 0, none⟩) := hlow 6 (by decide)
      have l7 : t.getD 7 undef = .bool true := hlow 7 (by decide)
      have l8 : t.getD 8 undef = .bool false := hlow 8 (by decide)
      have l9 : t.getD 9 undef = .slice A n0 ca := hlow 9 (by decide)
      have l10 : t.getD 10 undef = va := hlow 10 (by decide)
      have l11 : t.getD 11 undef = .slice B m0 cb := hlow 11 (by decide)
      have l12 : t.getD 12 undef = vb := hlow 12 (by decide)
      have l13 : t.getD 13 undef = va := hlow 13 (by decide)
      have l14 : t.getD 14 undef = .agg #[s0] := hlow 14 (by decide)
      have l15 : t.getD 15 undef = vb := hlow 15 (by decide)
      have l16 : t.getD 16 undef = .agg #[t0] := hlow 16 (by decide)
      have l67 : t.getD 67 undef = undef := hhigh 67 (by decide) (by decide)
      have l68 : t.getD 68 undef = undef := hhigh 68 (by decide) (by decide)
      have l69 : t.getD 69 undef = undef := hhigh 69 (by decide) (by decide)
      have l70 : t.getD 70 undef = undef := hhigh 70 (by decide) (by decide)
      have l71 : t.getD 71 undef = undef := hhigh 71 (by decide) (by decide)
      have l72 : t.getD 72 undef = undef := hhigh 72 (by decide) (by decide)
      have l73 : t.getD 73 undef = undef := hhigh 73 (by decide) (by decide)
      have l74 : t.getD 74 undef = undef := hhigh 74 (by decide) (by decide)
      have l75 : t.getD 75 undef = undef := hhigh 75 (by decide) (by decide)
      have l76 : t.getD 76 undef = undef := hhigh 76 (by decide) (by decide)
      have l77 : t.getD 77 undef = undef := hhigh 77 (by decide) (by decide)
      have l78 : t.getD 78 undef = undef := hhigh 78 (by decide) (by decide)
      have l79 : t.getD 79 undef = undef := hhigh 79 (by decide) (by decide)
      have l80 : t.getD 80 undef = undef := hhigh 80 (by decide) (by decide)
      have l81 : t.getD 81 undef = undef := hhigh 81 (by decide) (by decide)
      have l82 : t.getD 82 undef = undef := hhigh 82 (by decide) (by decide)
      have l83 : t.getD 83 undef = undef := hhigh 83 (by decide) (by decide)
      have l84 : t.getD 84 undef = undef := hhigh 84 (by decide) (by decide)
      have l85 : t.getD 85 undef = undef := hhigh 85 (by decide) (by decide)
      have l86 : t.getD 86 undef = undef := hhigh 86 (by decide) (by decide)
      have l87 : t.getD 87 undef = undef := hhigh 87 (by decide) (by decide)
      have l88 : t.getD 88 undef = undef := hhigh 88 (by decide) (by decide)
      have l66 : t.getD 66 undef = .bool false := hrel 49 (by decide)
      rw [l0, l1, l2, l3, l4, l5, l6, l7, l8, l9, l10, l11, l12, l13, l14, l15, l16, l66, l67, l68, l69, l70, l71, l72, l73, l74, l75, l76, l77, l78, l79, l80, l81, l82, l83, l84, l85, l86, l87, l88] at e
      generalize t.getD 17 undef = u17 at e
      generalize t.getD 18 undef = u18 at e
      generalize t.getD 19 undef = u19 at e
      generalize t.getD 20 undef = u20 at e
      generalize t.getD 21 undef = u21 at e
      generalize t.getD 22 undef = u22 at e
      generalize t.getD 23 undef = u23 at e
      generalize t.getD 24 undef = u24 at e
      generalize t.getD 25 undef = u25 at e
      generalize t.getD 26 undef = u26 at e
      generalize t.getD 27 undef = u27 at e
      generalize t.getD 28 undef = u28 at e
      generalize t.getD 29 undef = u29 at e
      generalize t.getD 30 undef = u30 at e
      generalize t.getD 31 undef = u31 at e
      generalize t.getD 32 undef = u32 at e
      generalize t.getD 33 undef = u33 at e
      generalize t.getD 34 undef = u34 at e
      generalize t.getD 35 undef = u35 at e
      generalize t.getD 36 undef = u36 at e
      generalize t.getD 37 undef = u37 at e
      generalize t.getD 38 undef = u38 at e
      generalize t.getD 39 undef = u39 at e
      generalize t.getD 40 undef = u40 at e
      generalize t.getD 41 undef = u41 at e
      generalize t.getD 42 undef = u42 at e
      generalize t.getD 43 undef = u43 at e
      generalize t.getD 44 undef = u44 at e
      generalize t.getD 45 undef = u45 at e
      generalize t.getD 46 undef = u46 at e
      generalize t.getD 47 undef = u47 at e
      generalize t.getD 48 undef = u48 at e
      generalize t.getD 49 undef = u49 at e
      generalize t.getD 50 undef = u50 at e
      generalize t.getD 51 undef = u51 at e
      generalize t.getD 52 undef = u52 at e
      generalize t.getD 53 undef = u53 at e
      generalize t.getD 54 undef = u54 at e
      generalize t.getD 55 undef = u55 at e
      generalize t.getD 56 undef = u56 at e
      generalize t.getD 57 undef = u57 at e
      generalize t.getD 58 undef = u58 at e
      generalize t.getD 59 undef = u59 at e
      generalize t.getD 60 undef = u60 at e
      generalize t.getD 61 undef = u61 at e
      generalize t.getD 62 undef = u62 at e
      generalize t.getD 63 undef = u63 at e
      generalize t.getD 64 undef = u64 at e
      generalize t.getD 65 undef = u65 at e
      clear hlow hhigh hrel l0 l1 l2 l3 l4 l5 l6 l7 l8 l9 l10 l11 l12 l13 l14 l15 l16 l66 l67 l68 l69 l70 l71 l72 l73 l74 l75 l76 l77 l78 l79 l80 l81 l82 l83 l84 l85 l86 l87 l88 hsz hsz' hd
      subst e
      go_wp2_with fail
      go_meet
      exact ⟨rfl, hbw⟩
  case rest =>
    obtain ⟨rfl, hw⟩ := hcut
    have cX := (hX.on hw).cell0
    have cY := (hY.on hw).cell0
    clear HS1 HSO HSA HMO HMA HML HMX HIS
    obtain ⟨nL, hL⟩ : ∃ n, Hid (KL.length = n) := ⟨_, rfl⟩
    obtain ⟨nX, hXn⟩ : ∃ n, Hid (KX.length = n) := ⟨_, rfl⟩
    rw [hL.out] at HWI
    rw [hXn.out] at HSM
    obtain ⟨pL, hpL⟩ : ∃ p, Hid ((nL == 0) = p) := ⟨_, rfl⟩
    obtain ⟨pX, hpX⟩ : ∃ p, Hid ((nX == 0) = p) := ⟨_, rfl⟩
    rw [hpL.out] at HWI
    rw [hpX.out] at HSM
    go_wp2_with fail
    with_reducible refine (HWI.out _ hw).mono ?_
    rintro e x1 ⟨rfl, y1⟩
    have hw1 := below_step hw y1
    have cX := (hX.on hw1).cell0
    have cY := (hY.on hw1).cell0
    go_wp2_with fail
    with_reducible refine (HSL.out _ _ (bel_new hw1 _) (isK_1 x1)).mono ?_
    rintro e x2 ⟨v2, rfl, t2, y2⟩
    have hw2 := below_step (bel_new hw1 _) y2
    have cX := (hX.on hw2).cell0
    have cY := (hY.on hw2).cell0
    obtain ⟨A2, c2, e2, _, _⟩ := t2.form
    rw [hL.out] at e2
    subst e2
    clear HWI HSL t2
    have hz : ((nL : Int) == 0) = pL := by rw [← hpL.out, Bool.eq_iff_iff, beq_iff_eq, beq_iff_eq]; omega
    have hz2 : ((nX : Int) == 0) = pX := by rw [← hpX.out, Bool.eq_iff_iff, beq_iff_eq, beq_iff_eq]; omega
    have HZ2 := Lib.hid hz2
    clear hz2
    cases pL
    · have hnl : ¬ nL = 0 := by intro h; subst h; cases hz
      go_wp2_with fail
      with_reducible refine (HSM.out _ hw2).mono ?_
      rintro e x3 ⟨rfl, y3⟩
      have hw3 := below_step hw2 y3
      go_wp2_with fail
      with_reducible refine (HSX.out _ _ (bel_new hw3 _) (isK_12 x3)).mono ?_
      rintro e x4 ⟨v4, rfl, t4, y4⟩
      have hw4 := below_step (bel_new hw3 _) y4
      obtain ⟨A4, c4, e4, _, _⟩ := t4.form
      rw [hXn.out] at e4
      subst e4
      have hz2 := HZ2.out
      cases pX
      · have hnx : ¬ nX = 0 := by intro h; subst h; cases hz2
        go_wp2
        go_ret
        exact ⟨rfl, below_step b6 hw4⟩
      · have hnx : nX = 0 := by have := hz2; rw [beq_iff_eq] at this; omega
        subst hnx
        go_wp2
        go_ret
        exact ⟨rfl, below_step b6 hw4⟩
    · have hnl : nL = 0 := by have := hz; rw [beq_iff_eq] at this; omega
      go_wp2_with fail
      with_reducible refine (HSM.out _ hw2).mono ?_
      rintro e x3 ⟨rfl, y3⟩
      have hw3 := below_step hw2 y3
      go_wp2_with fail
      with_reducible refine (HSX.out _ _ (bel_new hw3 _) (isK_12 x3)).mono ?_
      rintro e x4 ⟨v4, rfl, t4, y4⟩
      have hw4 := below_step (bel_new hw3 _) y4
      obtain ⟨A4, c4, e4, _, _⟩ := t4.form
      rw [hXn.out] at e4
      subst e4
      have hz2 := HZ2.out
      cases pX
      · have hnx : ¬ nX = 0 := by intro h; subst h; cases hz2
        go_wp2
        go_ret
        exact ⟨rfl, below_step b6 hw4⟩
      · have hnx : nX = 0 := by have := hz2; rw [beq_iff_eq] at this; omega
        subst hnx
        go_wp2
        go_ret
        exact ⟨rfl, below_step b6 hw4⟩
end Go.Proofs.Ytanpncjnojjmkab
