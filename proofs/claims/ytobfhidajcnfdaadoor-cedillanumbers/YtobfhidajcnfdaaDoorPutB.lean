/-
  digits.Put: its contract; the fixed fact of the laws on digits.
-/
import Derived.Test.YtobfhidajcnfdaaDoorPutA
import Derived.Test.YtobfhidajcnfdaaDoorTextE
import Derived.Laws.AppendOwnNone
import Derived.Deep.DeepCutAuto
import Derived.Deep.CutRange
namespace Go.Proofs.YtobfhidajcnfdaaDoor
set_option linter.unusedVariables false
set_option maxRecDepth 20000
open Go.RowKit

/-- A slice of bytes: the address A leads to bs. -/
def Byt (w : World) (A : Option Addr) (bs : List UInt8) : Prop := bs ≠ [] → ∃ ad, A = some ad ∧ ad.block < w.heap.size ∧ ∀ j u, (Lib.byteCells bs)[j]? = some u → w.cell? (ad.add j) = some u
theorem Byt.below {w w' : World} {A : Option Addr} {bs : List UInt8} (h : Byt w A bs) (hb : Below w.heap.size w w') : Byt w' A bs := fun hn => by
  obtain ⟨ad, e, hl, hc⟩ := h hn
  exact ⟨ad, e, Nat.lt_of_lt_of_le hl hb.size, fun j u hu => (hb.cell (by rw [add_block]; exact hl)).trans (hc j u hu)⟩
theorem Byt.nil (w : World) (A : Option Addr) : Byt w A [] := fun h => absurd rfl h

/-- How many bytes a number has. -/
def bytesLen (N : Nat) : Nat := (bl N + 7) / 8
/-- What Put writes behind. -/
def putBytes (N : Nat) : List UInt8 := beBytes 4 (bytesLen N) ++ beBytes (bytesLen N) N
theorem putBytes_length (N : Nat) : (putBytes N).length = 4 + bytesLen N := by simp [putBytes, beBytes_length]

/-- It answers the bytes bs, in a row of its own. -/
def RetBy (bs : List UInt8) (w : World) (e : Ending) (w' : World) : Prop := ∃ u, e = .returned u ∧ w'.ownsRow w.heap.size 5 1 u bs.length (Lib.byteCells bs) ∧ Below w.heap.size w w'

theorem make_bytes (w : World) (c : Nat) (hc : c ≤ 1000000000) : ∃ w', (Instr.makeSlice 42 (.int .i64 0) (.int .i64 (c : Int))).run Tryd.prog w = .ok (.slice (some ⟨w.heap.size, 0, none⟩) 0 c) w' ∧ w'.ownsRow w.heap.size 5 1 (.slice (some ⟨w.heap.size, 0, none⟩) 0 c) 0 [] ∧ w.grownBy w' none := by
  obtain ⟨i0, hi, hz0, hz1, hz2⟩ := info_parts byte_info
  exact run_make_own w w.heap.size 42 5 i0 (.int .u8 0) 1 Tryd.underlying42 hi hz0 hz1 .i64 .i64 c (by rw [hz2]; omega) (by unfold maxLen; omega) (Nat.le_refl _)

set_option maxHeartbeats 2000000 in
theorem put_any (A : Option Addr) (m c : Nat) (bs : List UInt8) (v : Value) (k N : Nat) (w : World) (hA : Byt w A bs) (hm : bs.length = m) (hc : A = none → c = 0) (hm9 : m ≤ 1000000) (h : IsN w v k N) (hk : k ≤ 90000) :
    Calls Tryd.prog 21 #[.slice A m c, v] w (RetBy (bs ++ putBytes N) w) := by
  obtain ⟨i0, hi, hz0, hz1, hz2⟩ := info_parts byte_info
  obtain ⟨A0, n0, c0, rfl⟩ := h.shape
  have hbl : bl N ≤ 32 * k := (bl_spec _ _).2 h.lt2
  have h1 := h.alloc (.cells #[.slice A0 n0 c0] 26)
  have b1 := below_new w (.cells #[.slice A0 n0 c0] 26)
  have hX := Blk.new w 26 #[.slice A0 n0 c0]
  go_enter Tryd.func21, Tryd.ntmps21
  go_wp2_with fail
  refine (bits_any _ k N _ h1 (by omega)).mono ?_
  rintro e w1 ⟨rfl, y1⟩
  have hX := hX.on y1
  have h1 := h1.below y1
  have bw1 := below_step b1 y1
  have hA1 := hA.below bw1
  obtain ⟨sz, hsz⟩ : ∃ sz, bytesLen N = sz := ⟨_, rfl⟩
  have hdiv : (((bl N : Nat) : Int) + 8 - 1) / 8 = (sz : Int) := by rw [← hsz, bytesLen]; omega
  have hszk : sz ≤ 4 * k := by rw [← hsz, bytesLen]; omega
  obtain ⟨w2, hmk, hown2, hg2⟩ := make_bytes w1 (m + 4 + sz) (by omega)
  rw [show ((m + 4 + sz : Nat) : Int) = (m : Int) + 4 + (sz : Int) by omega] at hmk
  have bw2 : Below w1.heap.size w1 w2 := (Below.refl _ w1).grown hg2 (Nat.le_refl _) (by simp)
  have hA2 := hA1.below bw2
  have hX2 := hX.on bw2
  have h2 := h1.below bw2
  have b2 := below_step bw1 bw2
  have hs12 := bw2.size
  have hws := bw1.size
  have HSZ := Lib.hid hsz
  clear hsz hg2 hbl hA h hA1 hX h1
  have hm4 : m + 4 + sz ≤ 2000000 := by omega
  go_upto_region 3 with fail
  simp only [hdiv]
  go_cut [6] (fun s6 wx => wx.ownsRow w1.heap.size 5 1 s6 m (Lib.byteCells bs) ∧ Below w1.heap.size w1 wx ∧ Lib.OthersKept 5 none w2 wx)
  case first =>
    rcases A with _ | ad
    · have hb0 : bs = [] := by
        rcases Classical.em (bs = []) with h0 | h0
        · exact h0
        · obtain ⟨ad, e, _⟩ := hA2 h0; cases e
      subst hb0
      obtain rfl := hc rfl
      obtain rfl : m = 0 := by rw [← hm]; rfl
      go_wp2_with (at_builtin; refine wpList_append_own_none rfl (.tmp 18) (.tmp 19) 42 rfl w1.heap.size 5 i0 1 Tryd.underlying42 hi _ 0 [] rfl hown2 rfl ?_)
      go_meet
      exact ⟨hown2, bw2, Lib.OthersKept.refl _ _ _⟩
    · have hsrc : ∀ j u, (Lib.byteCells bs)[j]? = some u → w2.cell? (ad.add j) = some u := fun j u hu => by
        obtain ⟨ad', e, _, h5⟩ := hA2 (by rintro rfl; simp [Lib.byteCells] at hu)
        obtain rfl := Option.some.inj e
        exact h5 j u hu
      have HS := Lib.hid hsrc
      have HM : Hid ((Lib.byteCells bs).length = m * 1 ∧ ∀ u ∈ Lib.byteCells bs, u.oneCell' = true) := by
        refine ⟨by rw [Lib.byteCells_length, hm]; omega, fun u hu => ?_⟩
        simp only [Lib.byteCells, List.mem_map] at hu
        obtain ⟨b, _, rfl⟩ := hu
        rfl
      clear hsrc hA2 hm hc
      go_wp2_with (at_builtin; refine wpList_append_own _ rfl (.tmp 18) (.tmp 19) 42 rfl w1.heap.size 5 i0 (.int .u8 0) 1 1 Tryd.underlying42 hi hz0 hz1 hz2 rfl (by decide) _ 0 [] rfl hown2 ad m c (Lib.byteCells bs) rfl HM.out.1 HS.out HM.out.2 (by unfold maxLen; omega) (by omega) hs12 ?_; intro v' w3 hown3 hgrow _; have hb3 := bw2.grown hgrow hs12 (fun k hk => (hown2.lt k hk).1); have hk3 : Lib.OthersKept 5 none w2 w3 := (Lib.OthersKept.refl _ _ _).grown hgrow (Lib.ownsRow_kind hown2); clear hgrow)
      go_meet
      exact ⟨by simpa using hown3, hb3, hk3⟩
  case rest =>
    obtain ⟨hown3, hb3, hk3⟩ := hcut
    obtain ⟨ao, cp, rfl⟩ := own_form hown3
    have h3 := h2.others hk3 (by decide)
    have hX3 := hX2.others hk3 (by decide)
    generalize wc = w3 at *
    have hb3' := bw1.trans (hb3.mono hws)
    have hs3 := hb3.size
    clear hA2 hX2 h2 hk3 hown2 bw2 b2
    have hsz32 : (sz : Int) < 4294967296 := by omega
    go_wp2_with fail
    have hArr1 : Arr 43 .u32 (w3.alloc (.cells #[.int .u32 (sz : Nat)] 43)) (some ⟨w3.heap.size, 0, none⟩) [sz] := fun _ => ⟨w3.heap.size, 0, _, rfl, Blk.new w3 43 _, fun i hi => by
      have : i = 0 := by simpa using hi
      subst this; rfl⟩
    have hcell : Below w3.heap.size w3 (w3.alloc (.cells #[.int .u32 (sz : Nat)] 43)) := below_new _ _
    refine (appendBytes_any w1.heap.size m 4 _ (Lib.byteCells bs) (some ⟨w3.heap.size, 0, none⟩) 1 [sz] _ (hown3.alloc _) (by simp; omega) hArr1 (by intro x hx; simp at hx; omega) (by simp) (by omega)).mono ?_
    rintro e w4 ⟨u4, rfl, hown4, hb4, hk4⟩
    obtain ⟨ao4, cp4, rfl⟩ := own_form hown4
    have h4 := (h3.alloc (.cells #[.int .u32 (sz : Nat)] 43)).others hk4 (by decide)
    have hX4 := (hX3.alloc (.cells #[.int .u32 (sz : Nat)] 43)).others hk4 (by decide)
    have hb4' := hb3.trans ((hcell.mono hs3).trans hb4)
    have hs4 := hb4'.size
    clear h3 hX3 hown3 hk4 hb4 hb3 hb3' hArr1 hcell
    have hcx := hX4.cell0
    obtain ⟨A', c', l, e, hArr, hNorm, hval, hlk, _⟩ := h4
    simp only [Value.agg.injEq, Array.mk.injEq, List.cons.injEq, Value.slice.injEq, and_true] at e
    obtain ⟨rfl, rfl, rfl⟩ := e
    have HB := Lib.hid hNorm.1
    have HV := Lib.hid hval
    have hszl : sz ≤ 4 * l.length := by
      have h5 := val_lt (b := 4294967296) (by decide) hNorm.1
      rw [hval, show (4294967296 : Nat) = 2 ^ 32 by decide, ← Nat.pow_mul] at h5
      have h6 := (bl_spec N (32 * l.length)).2 h5
      rw [← HSZ.out, bytesLen]
      omega
    clear hval hNorm
    go_wp2_with fail
    refine (limbsOf_any A0 c0 l _ hArr (by omega)).mono ?_
    rintro e w5 ⟨v5, rfl, ⟨A5, c5, rfl, hArr5, _⟩, y5⟩
    have hown5 := own_kept hown4 y5
    have hb5 := hb4'.trans (y5.mono hs4)
    have hs5 := hb5.size
    go_wp2_with fail
    refine (appendBytes_any w1.heap.size (m + 4) sz _ _ A5 c5 l _ hown5 hs5 hArr5 HB.out hszl (by omega)).mono ?_
    rintro e w6 ⟨u6, rfl, hown6, hb6, _⟩
    obtain ⟨ao6, cp6, rfl⟩ := own_form hown6
    go_wp2
    go_ret
    have e1 : (bs ++ putBytes N).length = m + 4 + sz := by rw [List.length_append, putBytes_length, HSZ.out, hm]; omega
    have e2 : Lib.byteCells (bs ++ putBytes N) = Lib.byteCells bs ++ Lib.byteCells (beBytes 4 (val 4294967296 [sz])) ++ Lib.byteCells (beBytes sz (val 4294967296 l)) := by
      rw [HV.out, val_one, putBytes, HSZ.out]; simp [Lib.byteCells]
    exact ⟨_, rfl, by rw [e1, e2]; exact own_base hown6 hws, bw1.trans ((hb5.trans hb6).mono hws)⟩

/-- 'string(b)' of a row of one's own. -/
theorem conv_own {w : World} {B g cap : Nat} {bs : List UInt8} (h : w.ownsRow B 5 1 (.slice (some ⟨g, 0, none⟩) bs.length cap) bs.length (Lib.byteCells bs)) :
    (convert 42 9 (.slice (some ⟨g, 0, none⟩) bs.length cap)).run Tryd.prog w = .ok (.string ⟨bs.toArray⟩) w :=
  run_convert_bytes_back (P := Tryd.prog) w 42 9 5 ⟨g, 0, none⟩ cap bs Tryd.underlying42 Tryd.underlying5 Tryd.underlying9 (fun j hj => h.cells (g := g) rfl j (.int .u8 (bs[j].toNat : Int)) (by simp [Lib.byteCells, hj]))

theorem bl_2_32 : bl 4294967296 = 33 := bl_unique (by decide) fun j hj => by
  rcases Nat.lt_or_ge j 33 with h | h
  · exact absurd (Nat.lt_of_lt_of_le hj (Nat.pow_le_pow_right (by decide) (show j ≤ 32 by omega))) (by decide)
  · exact h
theorem dec_2_32 : Lib.decDigits 4294967296 = [52, 50, 57, 52, 57, 54, 55, 50, 57, 54] := by
  rw [← groupsText_eq, groups_more (by decide), groups_one (by decide)]
  decide +kernel
theorem put_2_32 : putBytes 4294967296 = [0, 0, 0, 5, 1, 0, 0, 0, 0] := by
  rw [putBytes, bytesLen, bl_2_32]
  decide +kernel

set_option maxHeartbeats 2000000 in
/-- The fixed fact. -/
theorem awake03_any (w : World) (he : Env w) : Calls Tryd.prog 9 #[] w (RetV (.bool true) w) := by
  have hrow : Row .u32 (w.alloc (.cells #[.int .u32 0, .int .u32 1] 43)) (some ⟨w.heap.size, 0, none⟩) [0, 1] := fun _ => ⟨_, rfl, by simp, fun i hi => by
    rcases (show i = 0 ∨ i = 1 by simp at hi; omega) with rfl | rfl
    · simp [Addr.add]
    · simp [Addr.add]⟩
  have b0 := below_new w (.cells #[.int .u32 0, .int .u32 1] 43)
  go_enter Tryd.func9, Tryd.ntmps9
  go_wp2_with fail
  refine (limbs_any (some ⟨w.heap.size, 0, none⟩) 2 [0, 1] _ hrow (by intro x hx; simp at hx; omega) (by decide)).mono ?_
  rintro e w1 ⟨v, rfl, hN, y1⟩
  obtain ⟨A1, n1, c1, rfl⟩ := hN.shape
  rw [show val 4294967296 [0, 1] = 4294967296 by simp [val]] at hN
  have b1 := below_step b0 y1
  have b2 := bel_new b1 (.cells #[.slice A1 n1 c1] 26)
  have hX := Blk.new w1 26 #[.slice A1 n1 c1]
  have hN := hN.alloc (.cells #[.slice A1 n1 c1] 26)
  have hcx := hX.cell0
  go_wp2_with fail
  refine (text_any _ 2 _ _ hN (by decide) (he.kept b2)).mono ?_
  rintro e w3 ⟨rfl, y3⟩
  have hX3 := (hX.on y3)
  have hN3 := hN.below y3
  have b3 := below_step b2 y3
  have hcx3 := hX3.cell0
  rw [dec_2_32]
  clear hX hN hcx
  go_wp2_with fail
  refine (put_any none 0 0 [] _ 2 _ _ (Byt.nil _ _) rfl (fun _ => rfl) (by decide) hN3 (by decide)).mono ?_
  rintro e w4 ⟨u, rfl, hown, y4⟩
  rw [put_2_32] at hown
  obtain ⟨g, cap, rfl⟩ : ∃ g cap, u = .slice (some ⟨g, 0, none⟩) 9 cap := ownsRow_succ (k := 8) hown
  have hconv := conv_own (w := w4) (g := g) (cap := cap) (bs := [0, 0, 0, 5, 1, 0, 0, 0, 0]) hown
  simp only [List.length_cons, List.length_nil, Nat.reduceAdd] at hconv
  go_wp2
  go_ret
  exact ⟨rfl, below_step b3 y4⟩
end Go.Proofs.YtobfhidajcnfdaaDoor
