/-
  The law through the layers, CedillaChars: its walk.
-/
import Derived.Test.YtccbofaefpbhlaaDoorPlaceB
import Derived.Test.YtccbofaefpbhlaaDoorSameA
import Derived.Test.YtccbofaefpbhlaaDoorRegB
import Derived.Test.YtccbofaefpbhlaaDoorUN
import Derived.Deep.RegionHeld3
namespace Go.Proofs.YtccbofaefpbhlaaDoor
set_option linter.unusedVariables false
set_option maxRecDepth 20000
open Go.RowKit

theorem own_runes {w : World} {B n : Nat} {u : Value} {cs : List Nat} (h : w.ownsRow B 21 1 u n (cellsOf .i32 cs)) : ∃ ao cap, u = .slice ao n cap ∧ cs.length = n ∧ RunIn w ao (cs.map fun x : Nat => (x : Int)) := by
  have hl : cs.length = n := by have := h.1; rw [cellsOf_length] at this; omega
  rcases h.2 with ⟨rfl, h0⟩ | ⟨g, cap, cur, rfl, hB, hh, hnc, hm, hs, hx⟩
  · refine ⟨none, 0, by rw [h0], hl, fun hne => absurd (by rw [List.length_eq_zero_iff.1 (show cs.length = 0 by omega)]; rfl) hne⟩
  · have hb : Blk w g 21 cur := hh
    refine ⟨_, cap, rfl, hl, fun _ => ⟨_, rfl, hb.lt, fun i hi => ?_⟩⟩
    have hi' : i < cs.length := by simpa using hi
    rw [add_zero_block, hb.cell]
    have h1 := cellsOf_get .i32 cs hi'
    rw [← hx, List.getElem?_take, if_pos (by omega)] at h1
    have h2 : cur[i]? = some (.int .i32 (cs.getD i 0 : Nat)) := by simpa using h1
    rw [h2]
    simp [List.getD, hi']
theorem runIn_rowI {w : World} {A : Option Addr} {L : List Int} (h : RunIn w A L) : Utf.RowI .i32 w A L := h
theorem isI_nat {c : Nat} : isI (c : Int) = true ↔ isC c := by
  rw [isI_iff]
  simp
theorem inL_nat (cs : List Nat) (h : ∀ x ∈ cs, isC x) (c : Nat) : inL (cs.map fun x : Nat => (x : Int)) c = decide (c ∈ cs) := by
  rw [Bool.eq_iff_iff, decide_eq_true_eq]
  simp only [inL, List.any_map, List.any_eq_true, Function.comp, Bool.and_eq_true, decide_eq_true_eq]
  constructor
  · rintro ⟨x, hx, _, e⟩
    have : x = c := by omega
    rw [← this]; exact hx
  · intro hc
    exact ⟨c, hc, isI_nat.2 (h c hc), rfl⟩

/-- A character alone: its text, and back. -/
theorem enc_one (d g : Nat) (hd : isC d) (wr : World) (hu : Env wr) (hg : g = wr.heap.size) (s2 : ByteArray) (hs2 : s2 = ⟨(enc d).toArray⟩) :
    Calls Tryd.prog 47 #[.slice (some ⟨g, 0, none⟩) 1 1] (wr.alloc (.cells #[.int .i32 (d : Int)] 21)) (RetV (.tuple #[.string s2, .int .i64 0]) (wr.alloc (.cells #[.int .i32 (d : Int)] 21))) := by
  subst hg
  have hN := Blk.new wr 21 #[.int .i32 (d : Int)]
  refine Utf.encode_any _ 1 1 [(d : Int)] _ (hu.alloc _) (fun _ => ⟨_, rfl, hN.lt, fun i hi => ?_⟩) rfl (by omega) s2 0 (.inl ⟨by simp; exact isI_nat.2 hd, ?_, rfl⟩)
  · have hi0 : i = 0 := by simp at hi; omega
    subst hi0
    rw [add_zero_block, hN.cell]
    rfl
  · rw [hs2, show Utf.chs [(d : Int)] = [d] by simp [Utf.chs], encs_cons, encs_nil, List.append_nil]
theorem next_one (d : Nat) (hd : isC d) (w : World) (hu : Env w) (s2 : ByteArray) (hs2 : s2 = ⟨(enc d).toArray⟩) :
    Calls Tryd.prog 50 #[.string s2] w (RetV (.tuple #[.int .i32 (d : Nat), .int .i64 (wid d : Nat), .bool true]) w) := by
  have hl : s2.data.toList = enc d := by rw [hs2]
  have hz : s2.size = wid d := by rw [← enc_length d, hs2]; rfl
  have h := Utf.next_any s2 w hu (by rw [hz]; have := wid_le d; omega) d (wid d) (.inl ⟨⟨hd, [], by rw [hl, List.append_nil]⟩, rfl⟩)
  rw [Utf.nextV, decide_eq_true (wid_pos d)] at h
  exact h
theorem width_one (d : Nat) (hd : isC d) (w : World) (hu : Env w) : Calls Tryd.prog 51 #[.int .i32 (d : Nat)] w (RetV (.int .i64 (wid d : Nat)) w) := by
  have h := width_any (d : Int) w hu
  rw [widI, if_pos (isI_nat.2 hd), Int.toNat_natCast] at h
  exact h

set_option maxHeartbeats 8000000 in
theorem cedillaChars_walk (A B : Option Addr) (n m ca cb : Nat) (l k : List Int) (w : World) (he : EnvR w) (hu : Env w) (hl : Utf.RowI .i64 w A l) (hln : l.length = n) (hk : Utf.RowI .i64 w B k) (hkm : k.length = m) :
    Calls Tryd.prog 8 #[.slice A n ca, .slice B m cb] w (RetV (.bool true) w) := by
  have C1 := Lib.hid (Utf.chars_any A n ca l w hl hln)
  have C2 := Lib.hid (fun W (hW : Below w.heap.size w W) => Utf.chars_any B m cb k W (hk.below hW) hkm)
  have HE := Lib.hid he
  have HU := Lib.hid hu
  clear he hu hl hln hk hkm
  go_enter Tryd.func8, Tryd.ntmps8
  go_wp2_with fail
  refine C1.out.mono ?_
  rintro e w1 ⟨cs, u, rfl, hcs30, hC, hown, y1⟩
  obtain ⟨a1, c1, rfl, _, hrun1⟩ := own_runes hown
  have HC := Lib.hid hC
  have EN := Lib.hid (Utf.encode_any a1 cs.length c1 (cs.map fun x : Nat => (x : Int)) w1 (HU.out.kept y1) (runIn_rowI hrun1) (by simp) (by omega) ⟨(encs cs).toArray⟩ 0 (.inl ⟨by simp only [List.mem_map]; rintro x ⟨c, hc, rfl⟩; exact isI_nat.2 (hC c hc), by rw [Utf.chs_nat], rfl⟩))
  clear C1 hown hrun1 hC
  obtain ⟨q, hq⟩ : ∃ q, cs.length = q := ⟨_, rfl⟩
  rw [hq] at EN hcs30 ⊢
  go_wp2_with fail
  refine EN.out.mono ?_
  rintro e w2 ⟨rfl, y2⟩
  have b2 := below_step y1 y2
  obtain ⟨s, hs⟩ : ∃ s : ByteArray, s = ⟨(encs cs).toArray⟩ := ⟨_, rfl⟩
  have hsl : s.data.toList = encs cs := by rw [hs]
  have hsz : s.size ≤ 1000000 := by
    have h1 := (encs_length_le cs).2
    have h2 : s.size = (encs cs).length := by rw [hs]; rfl
    omega
  have DE := Lib.hid (Utf.decode_ok s w2 (HU.out.kept b2) hsz cs (by rw [hsl]; exact splits_encs HC.out))
  rw [← hs]
  clear EN hs hsl hsz y1 y2
  go_wp2_with fail
  refine DE.out.mono ?_
  rintro e w3 ⟨u, rfl, hown, y3⟩
  have b3 := below_step b2 y3
  rw [hq] at hown
  obtain ⟨a3, c3, rfl, _, hrun3⟩ := own_runes hown
  have CS := Lib.hid (chars_any (cs.map fun x : Nat => (x : Int)) a3 c3 w3 hrun3 (by simp; omega))
  rw [List.length_map, hq] at CS
  have HQ := Lib.hid hq
  clear DE hown b2 y3 hq
  go_wp2_with fail
  refine CS.out.mono ?_
  rintro e w4 ⟨v, S, rfl, hset, hmem, y4⟩
  have hg := hset.good
  have HM : Hid (∀ c, memS S c = decide (c ∈ cs)) := Lib.hid (fun c => by rw [hmem, inL_nat cs HC.out])
  have hrun4 := hrun3.below y4
  have b4 := below_step b3 y4
  obtain ⟨ao, cp, rfl⟩ := hset.shape
  obtain ⟨sl, hsl⟩ : ∃ sl, S.length = sl := ⟨_, rfl⟩
  rw [hsl] at hset ⊢
  clear hmem hrun3 y4 b3 CS hsl
  have hX := Blk.new w4 29 #[.slice ao sl cp]
  have b5 := b4.alloc b4.size (.cells #[.slice ao sl cp] 29)
  have hs5 := hset.alloc (.cells #[.slice ao sl cp] 29)
  have hrun5 := hrun4.below (below_new w4 (.cells #[.slice ao sl cp] 29))
  obtain ⟨g9, hg9⟩ : ∃ g9, g9 = w4.heap.size := ⟨_, rfl⟩
  rw [← hg9] at hX
  go_wp2_with fail
  rw [← hg9]
  clear hg9 hset hrun4 b4
  generalize w4.alloc (.cells #[.slice ao sl cp] 29) = V at *
  go_loopw [45] (fun t wr => ∃ i : Nat, i ≤ q ∧ t = .int .i64 (i : Int) ∧ Below V.heap.size V wr) (fun t _ => q - (intOf t).toNat)
  case atStart => exact ⟨0, by omega, rfl, Below.refl _ _⟩
  case round =>
    obtain ⟨i, hi, rfl, hb⟩ := hrel
    by_cases hlt : i < q
    · obtain ⟨ad, rfl, hadl, hcell⟩ := (hrun5.below hb).at_ (i := i) (by simp; rw [HQ.out]; exact hlt)
      have hmemc : cs.getD i 0 ∈ cs := getD_memL (by rw [HQ.out]; exact hlt)
      have hgc : (cs.map fun x : Nat => (x : Int)).getD i 0 = ((cs.getD i 0 : Nat) : Int) := by simp [List.getD, show i < cs.length by rw [HQ.out]; exact hlt]
      rw [hgc] at hcell
      have hM : memI S ((cs.getD i 0 : Nat) : Int) = true := by rw [memI_nat, HM.out]; simpa using hmemc
      have hcle := (HC.out _ hmemc).le
      generalize cs.getD i 0 = d at *
      obtain ⟨kk, hkk⟩ : ∃ kk : Nat, cntB S (d : Int) = kk := ⟨_, rfl⟩
      obtain ⟨p1, _, _, p4⟩ := Pl.place_of hg (d : Int) kk hkk
      obtain ⟨p5, p6⟩ := p4 hM
      have hX2 := hX.on hb
      have IDX := Lib.hid (fun W (hW : Below wr.heap.size wr W) => by have := index_any S _ (d : Int) W ((hs5.below hb).below hW) (by omega) (by omega); rw [hkk] at this; exact this)
      have ATY := Lib.hid (fun W (hW : Below wr.heap.size wr W) => Pl.at_yes S _ kk d W ((hs5.below hb).below hW) p5 (by omega))
      clear hgc hM hkk p1 p4 p5 p6 hmemc
      go_wp2_with fail
      go_region_held3 (fun w' => w'.cell? ⟨g9, 0, none⟩ = some (.slice ao sl cp))
        (first | exact (hX2.on (below_drew _)).cell0 | exact (hX2.on hw1).cell0 | exact (hX2.on hw2).cell0)
        (first
          | ((with_reducible refine (IDX.out _ (below_drew _)).mono ?_); rintro e x1 ⟨rfl, z1⟩; have hw1 : Below wr.heap.size wr x1 := below_step (below_drew _) z1)
          | ((with_reducible refine (ATY.out _ hw1).mono ?_); rintro e x2 ⟨rfl, z2⟩; have hw2 : Below wr.heap.size wr x2 := below_step hw1 z2))
      go_wp2
      go_roundw
      case rel => exact ⟨i + 1, by omega, by go_num, below_step hb hw2⟩
      case measure => simp [intOf]; omega
    · have hX2 := hX.on hb
      have k9 := hX2.cell0
      have hs6 := hs5.below hb
      have b6 := b5.trans (hb.mono b5.size)
      have CO := Lib.hid (charsOf_any S _ wr hs6)
      clear hs5 hX hrun5 HQ
      go_wp2_with fail
      refine CO.out.mono ?_
      rintro e w7 ⟨u, rfl, hown, y7⟩
      obtain ⟨N, hN⟩ : ∃ N, (charsS S).length = N := ⟨_, rfl⟩
      rw [hN] at hown
      obtain ⟨a7, c7, rfl, _, hrun7⟩ := own_runes hown
      have hN9 : N ≤ 1114113 := by
        have := hg.cnt_le (by decide)
        rw [← hN, charsS_length]; omega
      have HN := Lib.hid hN
      have hX7 := hX2.on y7
      have hs7 := hs6.below y7
      have b7 := below_step b6 y7
      have HCH : Hid (∀ i, i < N → isC ((charsS S).getD i 0)) := Lib.hid (fun i hi => by
        have h1 := getD_memL (C := charsS S) (by rw [hN]; exact hi)
        rw [charsS_mem S hg] at h1
        have := hg.le h1
        unfold isC; omega)
      have HRI : Hid (∀ i, i + 1 < N → (charsS S).getD i 0 < (charsS S).getD (i + 1) 0) := Lib.hid (fun i hi => rise_of_pairwise (charsS_rise S hg) _ _ (Nat.lt_succ_self _) (by rw [hN]; exact hi))
      clear CO hown k9 hs6 hX2 b6 hN y7 hb
      go_wp2
      go_loopw [14, 68] (fun x t wr => ∃ (i : Nat) (s : ByteArray), i ≤ N ∧ x = .string s ∧ t = .int .i64 (i : Int) ∧ Hid (0 < i → s.data.toList = enc ((charsS S).getD (i - 1) 0)) ∧ Below w7.heap.size w7 wr) (fun _ t _ => N - (intOf t).toNat)
      case atStart => exact ⟨0, _, by omega, rfl, rfl, fun h => absurd h (Nat.lt_irrefl _), Below.refl _ _⟩
      case round =>
        obtain ⟨j, s1, hj, rfl, rfl, HP, hb⟩ := hrel
        by_cases hlt2 : j < N
        · obtain ⟨ad, rfl, hadl, hcell⟩ := (hrun7.below hb).at_ (i := j) (by simp; rw [HN.out]; exact hlt2)
          have hgc : ((charsS S).map fun x : Nat => (x : Int)).getD j 0 = (((charsS S).getD j 0 : Nat) : Int) := by simp [List.getD, show j < (charsS S).length by rw [HN.out]; exact hlt2]
          rw [hgc] at hcell
          have hCd := HCH.out j hlt2
          have hprev : 0 < j → Lib.compareBytes s1.data.toList (enc ((charsS S).getD j 0)) = -1 := fun h0 => by
            obtain ⟨i', rfl⟩ : ∃ i', j = i' + 1 := ⟨j - 1, by omega⟩
            have h1 := Utf.compare_encs (a := [(charsS S).getD i' 0]) (b := [(charsS S).getD (i' + 1) 0]) (by simp; exact HCH.out i' (by omega)) (by simp; exact hCd)
            rw [encs_cons, encs_nil, List.append_nil, encs_cons, encs_nil, List.append_nil] at h1
            rw [HP.out h0, Nat.add_sub_cancel, h1]
            show (if _ < _ then (-1 : Int) else _) = -1
            rw [if_pos (HRI.out i' hlt2)]
          have HSET : Hid ((charsS S).getD j 0 = (charsS S).getD (j + 1 - 1) 0) := Lib.hid (by rw [Nat.add_sub_cancel])
          clear hgc
          obtain ⟨d, hd⟩ : ∃ d, (charsS S).getD j 0 = d := ⟨_, rfl⟩
          rw [hd] at hcell hCd hprev HSET
          have hdl := hCd.le
          have HCD := Lib.hid hCd
          have HPV := Lib.hid hprev
          clear hd hCd hprev HP
          obtain ⟨s2, hs2⟩ : ∃ s2 : ByteArray, s2 = ⟨(enc d).toArray⟩ := ⟨_, rfl⟩
          have hsl2 : s2.data.toList = enc d := by rw [hs2]
          have hsz2 : s2.size = wid d := by rw [hs2, ← enc_length d]; rfl
          obtain ⟨g75, hg75⟩ : ∃ g75, g75 = wr.heap.size := ⟨_, rfl⟩
          have bwr := b7.trans (hb.mono b7.size)
          have bn := below_new wr (.cells #[.int .i32 (d : Int)] 21)
          have EN2 := Lib.hid (enc_one d g75 HCD.out wr (HU.out.kept bwr) hg75 s2 hs2)
          have NX := Lib.hid (fun W (hW : Below wr.heap.size wr W) => next_one d HCD.out W ((HU.out.kept bwr).kept hW) s2 hs2)
          have WD := Lib.hid (fun W (hW : Below wr.heap.size wr W) => width_one d HCD.out W ((HU.out.kept bwr).kept hW))
          have HS2 := Lib.hid hsl2
          have hlen : ((wid d : Int) != (s2.size : Int)) = false := by rw [hsz2]; simp
          have hw4 := wid_le d
          clear hs2 hsl2 hsz2 bwr
          go_wp2_with fail
          rw [← hg75]
          clear hg75
          refine EN2.out.mono ?_
          rintro e x1 ⟨rfl, z1⟩
          have h1 := below_step bn z1
          go_wp2_with fail
          refine (NX.out _ h1).mono ?_
          rintro e x2 ⟨rfl, z2⟩
          have h2 := below_step h1 z2
          go_wp2_with fail
          refine (WD.out _ h2).mono ?_
          rintro e x3 ⟨rfl, z3⟩
          have h3 := below_step h2 z3
          clear EN2 NX WD z1 z2 z3 h1 h2 bn
          by_cases hj0 : 0 < j
          · have hj0' : (0 : Int) < (j : Int) := by omega
            have CM := Lib.hid (fun W => Utf.compare_any s1 s2 (-1) W (by rw [HS2.out]; exact HPV.out hj0))
            go_wp2_with fail
            refine (CM.out _).mono ?_
            rintro e x4 ⟨rfl, z4⟩
            go_wp2
            go_roundw
            case rel => exact ⟨j + 1, s2, by omega, rfl, by go_num, Lib.hid (fun _ => by rw [HS2.out, HSET.out]), below_step hb (below_step h3 z4)⟩
            case measure => simp [intOf]; omega
          · obtain rfl : j = 0 := by omega
            go_wp2
            go_roundw
            case rel => exact ⟨1, s2, by omega, rfl, by go_num, Lib.hid (fun _ => by rw [HS2.out, HSET.out]), below_step hb h3⟩
            case measure => simp [intOf]; omega
        · have hX8 := hX7.on hb
          have hs8 := hs7.below hb
          have b8 := b7.trans (hb.mono b7.size)
          clear hX7 hs7 b7 hrun7 HP HCH HRI HN
          go_wp2_with fail
          refine (C2.out _ b8).mono ?_
          rintro e w9 ⟨cs2, u, rfl, hcs230, hC2, hown, y9⟩
          obtain ⟨a9, c9, rfl, _, hrun9⟩ := own_runes hown
          have CS2 := Lib.hid (chars_any (cs2.map fun x : Nat => (x : Int)) a9 c9 w9 hrun9 (by simp; omega))
          rw [List.length_map] at CS2
          obtain ⟨q2, hq2⟩ : ∃ q2, cs2.length = q2 := ⟨_, rfl⟩
          rw [hq2] at CS2 ⊢
          have hX9 := hX8.on y9
          have hs9 := hs8.below y9
          have b9 := below_step b8 y9
          clear hq2 hcs230 hC2 hown hrun9 y9 hX8 hs8 b8 C2
          go_wp2_with fail
          refine CS2.out.mono ?_
          rintro e w10 ⟨v, T, rfl, hset2, _, y10⟩
          have hgT := hset2.good
          obtain ⟨aT, cT, rfl⟩ := hset2.shape
          obtain ⟨tl, htl⟩ : ∃ tl, T.length = tl := ⟨_, rfl⟩
          rw [htl] at hset2 ⊢
          have hXT := Blk.new w10 29 #[.slice aT tl cT]
          have hX10 := (hX9.on y10).alloc (.cells #[.slice aT tl cT] 29)
          have hs10 := (hs9.below y10).alloc (.cells #[.slice aT tl cT] 29)
          have ht10 := hset2.alloc (.cells #[.slice aT tl cT] 29)
          have b10 := below_step (below_step b9 y10) (below_new w10 (.cells #[.slice aT tl cT] 29))
          obtain ⟨g22, hg22⟩ : ∃ g22, g22 = w10.heap.size := ⟨_, rfl⟩
          rw [← hg22] at hXT
          have kX := hX10.cell0
          have kT := hXT.cell0
          have ORC := Lib.hid (fun W (h1 : Below (w10.alloc (.cells #[.slice aT tl cT] 29)).heap.size (w10.alloc (.cells #[.slice aT tl cT] 29)) W) => setOr_any S T _ _ W (hs10.below h1) (ht10.below h1) (MayMerge.of hg hgT))
          clear htl y10 hset2 hs9 hX9 b9 CS2
          go_wp2_with fail
          rw [← hg22]
          clear hg22
          generalize w10.alloc (.cells #[.slice aT tl cT] 29) = V2 at *
          with_reducible refine (ORC.out _ (Below.refl _ _)).mono ?_
          rintro e w11 ⟨v, O, rfl, hset3, hmO, y11⟩
          have hgO := hset3.good
          obtain ⟨aO, cO, rfl⟩ := hset3.shape
          obtain ⟨ol, hol⟩ : ∃ ol, O.length = ol := ⟨_, rfl⟩
          rw [hol] at hset3 ⊢
          have HMO := Lib.hid hmO
          have hXO := Blk.new w11 29 #[.slice aO ol cO]
          have hX11 := (hX10.on y11).alloc (.cells #[.slice aO ol cO] 29)
          have hXT11 := (hXT.on y11).alloc (.cells #[.slice aO ol cO] 29)
          have hs11 := (hs10.below y11).alloc (.cells #[.slice aO ol cO] 29)
          have ht11 := (ht10.below y11).alloc (.cells #[.slice aO ol cO] 29)
          have ho11 := hset3.alloc (.cells #[.slice aO ol cO] 29)
          have b11 := below_step (below_step b10 y11) (below_new w11 (.cells #[.slice aO ol cO] 29))
          obtain ⟨g23, hg23⟩ : ∃ g23, g23 = w11.heap.size := ⟨_, rfl⟩
          rw [← hg23] at hXO
          clear hol hmO y11 hset3 kX kT ORC hX10 hXT hs10 ht10 b10
          go_upto_region 25 with fail
          rw [← hg23]
          clear hg23
          generalize w11.alloc (.cells #[.slice aO ol cO] 29) = W14 at *
          have HMO' : ∀ c, memS O c = (memS S c || memS T c) := HMO.out
          have HAND := Lib.hid (fun W' (h1 : Below W14.heap.size W14 W') => setAnd_any S T _ _ W' (hs11.below h1) (ht11.below h1) (MayMerge.of hg hgT))
          have HXR := Lib.hid (fun W' (h1 : Below W14.heap.size W14 W') => setXor_any S T _ _ W' (hs11.below h1) (ht11.below h1) (MayMerge.of hg hgT))
          have hEW : ∀ W', Below W14.heap.size W14 W' → EnvR W' := fun W' h1 => (HE.out.kept b11).kept h1
          have HNO := Lib.hid (fun W' (h1 : Below W14.heap.size W14 W') => not_any O _ W' (hEW W' h1) (ho11.below h1) (MayMerge.of allS_good hgO))
          have HNS := Lib.hid (fun W' (h1 : Below W14.heap.size W14 W') => not_any S _ W' (hEW W' h1) (hs11.below h1) (MayMerge.of allS_good hg))
          have HNT := Lib.hid (fun W' (h1 : Below W14.heap.size W14 W') => not_any T _ W' (hEW W' h1) (ht11.below h1) (MayMerge.of allS_good hgT))
          have HAN : Hid (∀ W' v1 v2 S1 S2, IsSet W' v1 S1 → (∀ c, memS S1 c = (fun c => allB c && !memS S c) c) → IsSet W' v2 S2 → (∀ c, memS S2 c = (fun c => allB c && !memS T c) c) → Calls Tryd.prog 29 #[v1, v2] W' (RetSet (fun c => (allB c && !memS S c) && (allB c && !memS T c)) W'.heap.size W')) := Lib.hid fun W' v1 v2 S1 S2 i1 m1 i2 m2 => by
            have h := setAnd_any S1 S2 v1 v2 W' i1 i2 (MayMerge.of i1.good i2.good)
            have e : (fun c => (fun a b => (a && b)) (memS S1 c) (memS S2 c)) = (fun c => (allB c && !memS S c) && (allB c && !memS T c)) := funext fun c => by simp only [m1, m2]
            rw [e] at h
            exact h
          have HLE : Hid (∀ W', Below W14.heap.size W14 W' → ∀ v2 S2, IsSet W' v2 S2 → (∀ c, memS S2 c = (fun c => (fun a b => (a && b)) (memS S c) (memS T c)) c) → Calls Tryd.prog 31 #[.agg #[.slice aO ol cO], v2] W' (RetSet (fun c => memS O c && !(memS S c && memS T c)) W'.heap.size W')) := Lib.hid fun W' h1 v2 S2 i2 m2 => by
            have h := setLess_any O S2 _ v2 W' (ho11.below h1) i2 (MayMerge.of hgO i2.good)
            have e : (fun c => (fun a b => (a && !b)) (memS O c) (memS S2 c)) = (fun c => memS O c && !(memS S c && memS T c)) := funext fun c => by simp only [m2]
            rw [e] at h
            exact h
          have HSM1 : Hid (∀ W' v1 S1 v2 S2, IsSet W' v1 S1 → (∀ c, memS S1 c = (fun c => allB c && !memS O c) c) → IsSet W' v2 S2 → (∀ c, memS S2 c = (fun c => (allB c && !memS S c) && (allB c && !memS T c)) c) → Calls Tryd.prog 38 #[v1, v2] W' (RetV (.bool true) W')) := Lib.hid fun W' v1 S1 v2 S2 i1 m1 i2 m2 => by
            have h := i2.as i1.good (fun c => by rw [m1, m2]; simp only [HMO']; cases allB c <;> cases memS S c <;> cases memS T c <;> rfl)
            exact same_yes S1 v1 v2 W' i1 h
          have HSM2 : Hid (∀ W' v1 S1 v2 S2, IsSet W' v1 S1 → (∀ c, memS S1 c = (fun c => (fun a b => (a != b)) (memS S c) (memS T c)) c) → IsSet W' v2 S2 → (∀ c, memS S2 c = (fun c => memS O c && !(memS S c && memS T c)) c) → Calls Tryd.prog 38 #[v1, v2] W' (RetV (.bool true) W')) := Lib.hid fun W' v1 S1 v2 S2 i1 m1 i2 m2 => by
            have h := i2.as i1.good (fun c => by rw [m1, m2]; simp only [HMO']; cases memS S c <;> cases memS T c <;> rfl)
            exact same_yes S1 v1 v2 W' i1 h
          obtain ⟨qa, hqa⟩ : ∃ q, (charsS T).countP (fun x => memS S x) = q := ⟨_, rfl⟩
          have HCA : Hid (∀ W' v S', IsSet W' v S' → (∀ c, memS S' c = (fun c => (fun a b => (a && b)) (memS S c) (memS T c)) c) → Calls Tryd.prog 18 #[v] W' (RetV (.int .i64 (qa : Nat)) W')) := Lib.hid fun W' v S' i1 m1 => by
            have h := count_any v S' W' i1
            rw [cnt_filter hgT i1.good (fun x => memS S x) (fun x => by rw [m1, Bool.and_comm]), hqa] at h
            exact h
          have HCO := Lib.hid (fun W' (h1 : Below W14.heap.size W14 W') => count_any _ O W' (ho11.below h1))
          have HCS := Lib.hid (fun W' (h1 : Below W14.heap.size W14 W') => count_any _ S W' (hs11.below h1))
          have HCT := Lib.hid (fun W' (h1 : Below W14.heap.size W14 W') => count_any _ T W' (ht11.below h1))
          have hcnt : cnt O + qa = cnt S + cnt T := by
            have h1 := Pl.cnt_or hg hgT hgO HMO'
            have h3 := count_not (charsS T) (fun x => memS S x)
            rw [charsS_length] at h3
            omega
          have hcl1 := hg.cnt_le (by decide)
          have hcl2 := hgT.cnt_le (by decide)
          obtain ⟨qo, hqo⟩ : ∃ q, cnt O = q := ⟨_, rfl⟩
          obtain ⟨qs, hqs⟩ : ∃ q, cnt S = q := ⟨_, rfl⟩
          obtain ⟨qt, hqt⟩ : ∃ q, cnt T = q := ⟨_, rfl⟩
          rw [hqo] at HCO hcnt
          rw [hqs] at HCS hcnt hcl1
          rw [hqt] at HCT hcnt hcl2
          obtain ⟨qz, hqz⟩ : ∃ q, q = qs + qt := ⟨_, rfl⟩
          have HAD1 : Hid (IntKind.i64.wrap ((qo : Int) + (qa : Int)) = (qz : Int)) := Lib.hid (by rw [IntKind.wrap_i64]; omega)
          have HAD2 : Hid (IntKind.i64.wrap ((qs : Int) + (qt : Int)) = (qz : Int)) := Lib.hid (by rw [IntKind.wrap_i64]; omega)
          clear hcnt hcl1 hcl2 hqo hqs hqt hqz hqa
          refine Rg.wp_region_frame (q := 35) (n := 35) (m := 160) (ds := fun i => (126 :: 127 :: 128 :: 129 :: 130 :: 131 :: 132 :: 133 :: 134 :: 135 :: 136 :: 137 :: 138 :: 139 :: 140 :: 141 :: 142 :: 143 :: 144 :: 145 :: 146 :: 147 :: 148 :: 149 :: 150 :: 151 :: 152 :: 153 :: 154 :: 155 :: 156 :: 157 :: 158 :: 159 :: 4 :: []).getD i 0) (al := fun i => false) (R := fun i w v => ((Rg.Wd.eq (.agg #[.slice aO ol cO]) :: Rg.Wd.eq (.int .i64 (qo : Nat)) :: Rg.Wd.eq (.agg #[.slice ao sl cp]) :: Rg.Wd.eq (.agg #[.slice aT tl cT]) :: Rg.Wd.mem (fun c => (fun a b => (a && b)) (memS S c) (memS T c)) :: Rg.Wd.eq (.int .i64 (qa : Nat)) :: Rg.Wd.eq (.int .i64 (qz : Nat)) :: Rg.Wd.eq (.agg #[.slice ao sl cp]) :: Rg.Wd.eq (.int .i64 (qs : Nat)) :: Rg.Wd.eq (.agg #[.slice aT tl cT]) :: Rg.Wd.eq (.int .i64 (qt : Nat)) :: Rg.Wd.eq (.int .i64 (qz : Nat)) :: Rg.Wd.eq (.bool true) :: Rg.Wd.eq (.bool true) :: Rg.Wd.eq (.agg #[.slice aO ol cO]) :: Rg.Wd.mem (fun c => allB c && !memS O c) :: Rg.Wd.eq (.agg #[.slice ao sl cp]) :: Rg.Wd.mem (fun c => allB c && !memS S c) :: Rg.Wd.eq (.agg #[.slice aT tl cT]) :: Rg.Wd.mem (fun c => allB c && !memS T c) :: Rg.Wd.mem (fun c => (allB c && !memS S c) && (allB c && !memS T c)) :: Rg.Wd.eq (.bool true) :: Rg.Wd.eq (.bool true) :: Rg.Wd.eq (.bool true) :: Rg.Wd.eq (.agg #[.slice ao sl cp]) :: Rg.Wd.eq (.agg #[.slice aT tl cT]) :: Rg.Wd.mem (fun c => (fun a b => (a != b)) (memS S c) (memS T c)) :: Rg.Wd.eq (.agg #[.slice aO ol cO]) :: Rg.Wd.eq (.agg #[.slice ao sl cp]) :: Rg.Wd.eq (.agg #[.slice aT tl cT]) :: Rg.Wd.mem (fun c => (fun a b => (a && b)) (memS S c) (memS T c)) :: Rg.Wd.mem (fun c => memS O c && !(memS S c && memS T c)) :: Rg.Wd.eq (.bool true) :: Rg.Wd.eq (.bool true) :: Rg.Wd.eq (.bool true) :: []).getD i (.eq undef)).ok w v)
            (fun fr k a w => k = 35 ∧ a.tmps.size = 160 ∧ a.defers = [] ∧ (∀ k, k < 160 → (∀ i, i < 35 → (126 :: 127 :: 128 :: 129 :: 130 :: 131 :: 132 :: 133 :: 134 :: 135 :: 136 :: 137 :: 138 :: 139 :: 140 :: 141 :: 142 :: 143 :: 144 :: 145 :: 146 :: 147 :: 148 :: 149 :: 150 :: 151 :: 152 :: 153 :: 154 :: 155 :: 156 :: 157 :: 158 :: 159 :: 4 :: []).getD i 0 ≠ k) → a.tmps.getD k undef = fr k) ∧ a.tmps.getD 4 undef = .bool true ∧ Below W14.heap.size W14 w)
            (by kernel_rfl) rfl (by decide) (by kernel_rfl) (by kernel_rfl) (by decide) (by decide) (fun j v w w' hb h => Rg.Wd.stable hb h) rfl rfl ?ops25 ?mid25 ?tail25 ?end25
          case mid25 =>
            intro a' w' h1 h2 h3 h4 h5 _ _
            exact ⟨rfl, h1, h2, h4, h5 34 (by decide), h3⟩
          case tail25 =>
            iterate 35 refine ⟨fun h => absurd h (by decide), ?_⟩
            trivial
          case end25 =>
            rintro ⟨t, d⟩ w' ⟨_, hsz, hd, hrest, h4, hbE⟩
            have hd' : d = [] := hd
            have hsz' : t.size = 160 := hsz
            have h4' : t.getD 4 undef = .bool true := h4
            have e := Rg.arr_eta t 160 hsz'
            subst hd'
            change t = List.toArray (t.getD 0 undef :: t.getD 1 undef :: t.getD 2 undef :: t.getD 3 undef :: t.getD 4 undef :: t.getD 5 undef :: t.getD 6 undef :: t.getD 7 undef :: t.getD 8 undef :: t.getD 9 undef :: t.getD 10 undef :: t.getD 11 undef :: t.getD 12 undef :: t.getD 13 undef :: t.getD 14 undef :: t.getD 15 undef :: t.getD 16 undef :: t.getD 17 undef :: t.getD 18 undef :: t.getD 19 undef :: t.getD 20 undef :: t.getD 21 undef :: t.getD 22 undef :: t.getD 23 undef :: t.getD 24 undef :: t.getD 25 undef :: t.getD 26 undef :: t.getD 27 undef :: t.getD 28 undef :: t.getD 29 undef :: t.getD 30 undef :: t.getD 31 undef :: t.getD 32 undef :: t.getD 33 undef :: t.getD 34 undef :: t.getD 35 undef :: t.getD 36 undef :: t.getD 37 undef :: t.getD 38 undef :: t.getD 39 undef :: t.getD 40 undef :: t.getD 41 undef :: t.getD 42 undef :: t.getD 43 undef :: t.getD 44 undef :: t.getD 45 undef :: t.getD 46 undef :: t.getD 47 undef :: t.getD 48 undef :: t.getD 49 undef :: t.getD 50 undef :: t.getD 51 undef :: t.getD 52 undef :: t.getD 53 undef :: t.getD 54 undef :: t.getD 55 undef :: t.getD 56 undef :: t.getD 57 undef :: t.getD 58 undef :: t.getD 59 undef :: t.getD 60 undef :: t.getD 61 undef :: t.getD 62 undef :: t.getD 63 undef :: t.getD 64 undef :: t.getD 65 undef :: t.getD 66 undef :: t.getD 67 undef :: t.getD 68 undef :: t.getD 69 undef :: t.getD 70 undef :: t.getD 71 undef :: t.getD 72 undef :: t.getD 73 undef :: t.getD 74 undef :: t.getD 75 undef :: t.getD 76 undef :: t.getD 77 undef :: t.getD 78 undef :: t.getD 79 undef :: t.getD 80 undef :: t.getD 81 undef :: t.getD 82 undef :: t.getD 83 undef :: t.getD 84 undef :: t.getD 85 undef :: t.getD 86 undef :: t.getD 87 undef :: t.getD 88 undef :: t.getD 89 undef :: t.getD 90 undef :: t.getD 91 undef :: t.getD 92 undef :: t.getD 93 undef :: t.getD 94 undef :: t.getD 95 undef :: t.getD 96 undef :: t.getD 97 undef :: t.getD 98 undef :: t.getD 99 undef :: t.getD 100 undef :: t.getD 101 undef :: t.getD 102 undef :: t.getD 103 undef :: t.getD 104 undef :: t.getD 105 undef :: t.getD 106 undef :: t.getD 107 undef :: t.getD 108 undef :: t.getD 109 undef :: t.getD 110 undef :: t.getD 111 undef :: t.getD 112 undef :: t.getD 113 undef :: t.getD 114 undef :: t.getD 115 undef :: t.getD 116 undef :: t.getD 117 undef :: t.getD 118 undef :: t.getD 119 undef :: t.getD 120 undef :: t.getD 121 undef :: t.getD 122 undef :: t.getD 123 undef :: t.getD 124 undef :: t.getD 125 undef :: t.getD 126 undef :: t.getD 127 undef :: t.getD 128 undef :: t.getD 129 undef :: t.getD 130 undef :: t.getD 131 undef :: t.getD 132 undef :: t.getD 133 undef :: t.getD 134 undef :: t.getD 135 undef :: t.getD 136 undef :: t.getD 137 undef :: t.getD 138 undef :: t.getD 139 undef :: t.getD 140 undef :: t.getD 141 undef :: t.getD 142 undef :: t.getD 143 undef :: t.getD 144 undef :: t.getD 145 undef :: t.getD 146 undef :: t.getD 147 undef :: t.getD 148 undef :: t.getD 149 undef :: t.getD 150 undef :: t.getD 151 undef :: t.getD 152 undef :: t.getD 153 undef :: t.getD 154 undef :: t.getD 155 undef :: t.getD 156 undef :: t.getD 157 undef :: t.getD 158 undef :: t.getD 159 undef :: []) at e
            rw [h4'] at e
            clear hrest hsz hd hsz' h4 h4'
            generalize t.getD 0 undef = u0 at e
            generalize t.getD 1 undef = u1 at e
            generalize t.getD 2 undef = u2 at e
            generalize t.getD 3 undef = u3 at e
            generalize t.getD 5 undef = u5 at e
            generalize t.getD 6 undef = u6 at e
            generalize t.getD 7 undef = u7 at e
            generalize t.getD 8 undef = u8 at e
            generalize t.getD 9 undef = u9 at e
            generalize t.getD 10 undef = u10 at e
            generalize t.getD 11 undef = u11 at e
            generalize t.getD 12 undef = u12 at e
            generalize t.getD 13 undef = u13 at e
            generalize t.getD 14 undef = u14 at e
            generalize t.getD 15 undef = u15 at e
            generalize t.getD 16 undef = u16 at e
            generalize t.getD 17 undef = u17 at e
            generalize t.getD 18 undef = u18 at e
            generalize t.getD 19 undef = u19 at e
            generalize t.getD 20 undef = u20 at e
            generalize t.getD 21 undef = u21 at e
            generalize t.getD 22 undef = u22 at e
            generalize t.getD 23 undef = u23 at e
            generalize t.getD 24 undef = u24 at e
            generalize t.getD 25 undef = u25 at e
            generalize t.getD 26 undef = u26 at e
            generalize t.getD 27 undef = u27 at e
            generalize t.getD 28 undef = u28 at e
            generalize t.getD 29 undef = u29 at e
            generalize t.getD 30 undef = u30 at e
            generalize t.getD 31 undef = u31 at e
            generalize t.getD 32 undef = u32 at e
            generalize t.getD 33 undef = u33 at e
            generalize t.getD 34 undef = u34 at e
            generalize t.getD 35 undef = u35 at e
            generalize t.getD 36 undef = u36 at e
            generalize t.getD 37 undef = u37 at e
            generalize t.getD 38 undef = u38 at e
            generalize t.getD 39 undef = u39 at e
            generalize t.getD 40 undef = u40 at e
            generalize t.getD 41 undef = u41 at e
            generalize t.getD 42 undef = u42 at e
            generalize t.getD 43 undef = u43 at e
            generalize t.getD 44 undef = u44 at e
            generalize t.getD 45 undef = u45 at e
            generalize t.getD 46 undef = u46 at e
            generalize t.getD 47 undef = u47 at e
            generalize t.getD 48 undef = u48 at e
            generalize t.getD 49 undef = u49 at e
            generalize t.getD 50 undef = u50 at e
            generalize t.getD 51 undef = u51 at e
            generalize t.getD 52 undef = u52 at e
            generalize t.getD 53 undef = u53 at e
            generalize t.getD 54 undef = u54 at e
            generalize t.getD 55 undef = u55 at e
            generalize t.getD 56 undef = u56 at e
            generalize t.getD 57 undef = u57 at e
            generalize t.getD 58 undef = u58 at e
            generalize t.getD 59 undef = u59 at e
            generalize t.getD 60 undef = u60 at e
            generalize t.getD 61 undef = u61 at e
            generalize t.getD 62 undef = u62 at e
            generalize t.getD 63 undef = u63 at e
            generalize t.getD 64 undef = u64 at e
            generalize t.getD 65 undef = u65 at e
            generalize t.getD 66 undef = u66 at e
            generalize t.getD 67 undef = u67 at e
            generalize t.getD 68 undef = u68 at e
            generalize t.getD 69 undef = u69 at e
            generalize t.getD 70 undef = u70 at e
            generalize t.getD 71 undef = u71 at e
            generalize t.getD 72 undef = u72 at e
            generalize t.getD 73 undef = u73 at e
            generalize t.getD 74 undef = u74 at e
            generalize t.getD 75 undef = u75 at e
            generalize t.getD 76 undef = u76 at e
            generalize t.getD 77 undef = u77 at e
            generalize t.getD 78 undef = u78 at e
            generalize t.getD 79 undef = u79 at e
            generalize t.getD 80 undef = u80 at e
            generalize t.getD 81 undef = u81 at e
            generalize t.getD 82 undef = u82 at e
            generalize t.getD 83 undef = u83 at e
            generalize t.getD 84 undef = u84 at e
            generalize t.getD 85 undef = u85 at e
            generalize t.getD 86 undef = u86 at e
            generalize t.getD 87 undef = u87 at e
            generalize t.getD 88 undef = u88 at e
            generalize t.getD 89 undef = u89 at e
            generalize t.getD 90 undef = u90 at e
            generalize t.getD 91 undef = u91 at e
            generalize t.getD 92 undef = u92 at e
            generalize t.getD 93 undef = u93 at e
            generalize t.getD 94 undef = u94 at e
            generalize t.getD 95 undef = u95 at e
            generalize t.getD 96 undef = u96 at e
            generalize t.getD 97 undef = u97 at e
            generalize t.getD 98 undef = u98 at e
            generalize t.getD 99 undef = u99 at e
            generalize t.getD 100 undef = u100 at e
            generalize t.getD 101 undef = u101 at e
            generalize t.getD 102 undef = u102 at e
            generalize t.getD 103 undef = u103 at e
            generalize t.getD 104 undef = u104 at e
            generalize t.getD 105 undef = u105 at e
            generalize t.getD 106 undef = u106 at e
            generalize t.getD 107 undef = u107 at e
            generalize t.getD 108 undef = u108 at e
            generalize t.getD 109 undef = u109 at e
            generalize t.getD 110 undef = u110 at e
            generalize t.getD 111 undef = u111 at e
            generalize t.getD 112 undef = u112 at e
            generalize t.getD 113 undef = u113 at e
            generalize t.getD 114 undef = u114 at e
            generalize t.getD 115 undef = u115 at e
            generalize t.getD 116 undef = u116 at e
            generalize t.getD 117 undef = u117 at e
            generalize t.getD 118 undef = u118 at e
            generalize t.getD 119 undef = u119 at e
            generalize t.getD 120 undef = u120 at e
            generalize t.getD 121 undef = u121 at e
            generalize t.getD 122 undef = u122 at e
            generalize t.getD 123 undef = u123 at e
            generalize t.getD 124 undef = u124 at e
            generalize t.getD 125 undef = u125 at e
            generalize t.getD 126 undef = u126 at e
            generalize t.getD 127 undef = u127 at e
            generalize t.getD 128 undef = u128 at e
            generalize t.getD 129 undef = u129 at e
            generalize t.getD 130 undef = u130 at e
            generalize t.getD 131 undef = u131 at e
            generalize t.getD 132 undef = u132 at e
            generalize t.getD 133 undef = u133 at e
            generalize t.getD 134 undef = u134 at e
            generalize t.getD 135 undef = u135 at e
            generalize t.getD 136 undef = u136 at e
            generalize t.getD 137 undef = u137 at e
            generalize t.getD 138 undef = u138 at e
            generalize t.getD 139 undef = u139 at e
            generalize t.getD 140 undef = u140 at e
            generalize t.getD 141 undef = u141 at e
            generalize t.getD 142 undef = u142 at e
            generalize t.getD 143 undef = u143 at e
            generalize t.getD 144 undef = u144 at e
            generalize t.getD 145 undef = u145 at e
            generalize t.getD 146 undef = u146 at e
            generalize t.getD 147 undef = u147 at e
            generalize t.getD 148 undef = u148 at e
            generalize t.getD 149 undef = u149 at e
            generalize t.getD 150 undef = u150 at e
            generalize t.getD 151 undef = u151 at e
            generalize t.getD 152 undef = u152 at e
            generalize t.getD 153 undef = u153 at e
            generalize t.getD 154 undef = u154 at e
            generalize t.getD 155 undef = u155 at e
            generalize t.getD 156 undef = u156 at e
            generalize t.getD 157 undef = u157 at e
            generalize t.getD 158 undef = u158 at e
            generalize t.getD 159 undef = u159 at e
            subst e
            go_wp2_with fail
            go_ret
            exact ⟨rfl, below_step b11 hbE⟩
          case ops25 =>
            refine ⟨fun _ => ⟨rfl, fun l a w' hI hdeps => ⟨?_, fun K hK => ?_⟩⟩, ?_⟩
            · exact Rg.wanted_none rfl
            · have hbw : Below W14.heap.size W14 w' := ⟨hI.below.os, hI.below.tape, hI.below.output, hI.below.size, hI.below.block⟩
              have e23 : a.tmps.getD 23 undef = .pointer (some ⟨g23, 0, none⟩) := hI.rest 23 (by decide) (by decide)
              exact Rg.wp_load29 rfl e23 ((hXO.on hbw).cell0) (hK _ _ (Below.refl _ _) rfl (fun h => absurd h (by decide)))
            refine ⟨fun _ => ⟨rfl, fun l a w' hI hdeps => ⟨?_, fun K hK => ?_⟩⟩, ?_⟩
            · exact Rg.wanted_none rfl
            · have hbw : Below W14.heap.size W14 w' := ⟨hI.below.os, hI.below.tape, hI.below.output, hI.below.size, hI.below.block⟩
              have e126 : a.tmps.getD 126 undef = .agg #[.slice aO ol cO] := hI.rel 0 (by decide) (hdeps ⟨0, .data⟩ (by simp) rfl)
              refine Rg.wp_call1 rfl (enters_of Tryd.func18 (by kernel_rfl) rfl) ?_
              rw [e126]
              refine (HCO.out w' hbw).mono ?_
              rintro e w'' ⟨rfl, y⟩
              exact ⟨_, rfl, hK _ _ y rfl (fun h => absurd h (by decide))⟩
            refine ⟨fun _ => ⟨rfl, fun l a w' hI hdeps => ⟨?_, fun K hK => ?_⟩⟩, ?_⟩
            · exact Rg.wanted_none rfl
            · have hbw : Below W14.heap.size W14 w' := ⟨hI.below.os, hI.below.tape, hI.below.output, hI.below.size, hI.below.block⟩
              have e9 : a.tmps.getD 9 undef = .pointer (some ⟨g9, 0, none⟩) := hI.rest 9 (by decide) (by decide)
              exact Rg.wp_load29 rfl e9 ((hX11.on hbw).cell0) (hK _ _ (Below.refl _ _) rfl (fun h => absurd h (by decide)))
            refine ⟨fun _ => ⟨rfl, fun l a w' hI hdeps => ⟨?_, fun K hK => ?_⟩⟩, ?_⟩
            · exact Rg.wanted_none rfl
            · have hbw : Below W14.heap.size W14 w' := ⟨hI.below.os, hI.below.tape, hI.below.output, hI.below.size, hI.below.block⟩
              have e22 : a.tmps.getD 22 undef = .pointer (some ⟨g22, 0, none⟩) := hI.rest 22 (by decide) (by decide)
              exact Rg.wp_load29 rfl e22 ((hXT11.on hbw).cell0) (hK _ _ (Below.refl _ _) rfl (fun h => absurd h (by decide)))
            refine ⟨fun _ => ⟨rfl, fun l a w' hI hdeps => ⟨?_, fun K hK => ?_⟩⟩, ?_⟩
            · exact Rg.wanted_none rfl
            · have hbw : Below W14.heap.size W14 w' := ⟨hI.below.os, hI.below.tape, hI.below.output, hI.below.size, hI.below.block⟩
              have e128 : a.tmps.getD 128 undef = .agg #[.slice ao sl cp] := hI.rel 2 (by decide) (hdeps ⟨2, .data⟩ (by simp) rfl)
              have e129 : a.tmps.getD 129 undef = .agg #[.slice aT tl cT] := hI.rel 3 (by decide) (hdeps ⟨3, .data⟩ (by simp) rfl)
              refine Rg.wp_call2 rfl (enters_of Tryd.func29 (by kernel_rfl) rfl) ?_
              rw [e128, e129]
              refine (HAND.out w' hbw).mono ?_
              rintro e w'' ⟨v, S', rfl, hset, hmem, y⟩
              exact ⟨_, rfl, hK _ _ y ⟨S', hset, hmem⟩ (fun h => absurd h (by decide))⟩
            refine ⟨fun _ => ⟨rfl, fun l a w' hI hdeps => ⟨?_, fun K hK => ?_⟩⟩, ?_⟩
            · exact Rg.wanted_none rfl
            · have hbw : Below W14.heap.size W14 w' := ⟨hI.below.os, hI.below.tape, hI.below.output, hI.below.size, hI.below.block⟩
              obtain ⟨S130, i130, m130⟩ : ∃ S', IsSet w' (a.tmps.getD 130 undef) S' ∧ ∀ c, memS S' c = (fun c => (fun a b => (a && b)) (memS S c) (memS T c)) c := hI.rel 4 (by decide) (hdeps ⟨4, .data⟩ (by simp) rfl)
              refine Rg.wp_call1 rfl (enters_of Tryd.func18 (by kernel_rfl) rfl) ?_
              refine (HCA.out w' _ _ i130 m130).mono ?_
              rintro e w'' ⟨rfl, y⟩
              exact ⟨_, rfl, hK _ _ y rfl (fun h => absurd h (by decide))⟩
            refine ⟨fun _ => ⟨rfl, fun l a w' hI hdeps => ⟨?_, fun K hK => ?_⟩⟩, ?_⟩
            · exact Rg.wanted_none rfl
            · have hbw : Below W14.heap.size W14 w' := ⟨hI.below.os, hI.below.tape, hI.below.output, hI.below.size, hI.below.block⟩
              have e127 : a.tmps.getD 127 undef = .int .i64 (qo : Nat) := hI.rel 1 (by decide) (hdeps ⟨1, .data⟩ (by simp) rfl)
              have e131 : a.tmps.getD 131 undef = .int .i64 (qa : Nat) := hI.rel 5 (by decide) (hdeps ⟨5, .data⟩ (by simp) rfl)
              exact Rg.wp_add rfl e127 e131 HAD1.out (hK _ _ (Below.refl _ _) rfl (fun h => absurd h (by decide)))
            refine ⟨fun _ => ⟨rfl, fun l a w' hI hdeps => ⟨?_, fun K hK => ?_⟩⟩, ?_⟩
            · exact Rg.wanted_none rfl
            · have hbw : Below W14.heap.size W14 w' := ⟨hI.below.os, hI.below.tape, hI.below.output, hI.below.size, hI.below.block⟩
              have e9 : a.tmps.getD 9 undef = .pointer (some ⟨g9, 0, none⟩) := hI.rest 9 (by decide) (by decide)
              exact Rg.wp_load29 rfl e9 ((hX11.on hbw).cell0) (hK _ _ (Below.refl _ _) rfl (fun h => absurd h (by decide)))
            refine ⟨fun _ => ⟨rfl, fun l a w' hI hdeps => ⟨?_, fun K hK => ?_⟩⟩, ?_⟩
            · exact Rg.wanted_none rfl
            · have hbw : Below W14.heap.size W14 w' := ⟨hI.below.os, hI.below.tape, hI.below.output, hI.below.size, hI.below.block⟩
              have e133 : a.tmps.getD 133 undef = .agg #[.slice ao sl cp] := hI.rel 7 (by decide) (hdeps ⟨7, .data⟩ (by simp) rfl)
              refine Rg.wp_call1 rfl (enters_of Tryd.func18 (by kernel_rfl) rfl) ?_
              rw [e133]
              refine (HCS.out w' hbw).mono ?_
              rintro e w'' ⟨rfl, y⟩
              exact ⟨_, rfl, hK _ _ y rfl (fun h => absurd h (by decide))⟩
            refine ⟨fun _ => ⟨rfl, fun l a w' hI hdeps => ⟨?_, fun K hK => ?_⟩⟩, ?_⟩
            · exact Rg.wanted_none rfl
            · have hbw : Below W14.heap.size W14 w' := ⟨hI.below.os, hI.below.tape, hI.below.output, hI.below.size, hI.below.block⟩
              have e22 : a.tmps.getD 22 undef = .pointer (some ⟨g22, 0, none⟩) := hI.rest 22 (by decide) (by decide)
              exact Rg.wp_load29 rfl e22 ((hXT11.on hbw).cell0) (hK _ _ (Below.refl _ _) rfl (fun h => absurd h (by decide)))
            refine ⟨fun _ => ⟨rfl, fun l a w' hI hdeps => ⟨?_, fun K hK => ?_⟩⟩, ?_⟩
            · exact Rg.wanted_none rfl
            · have hbw : Below W14.heap.size W14 w' := ⟨hI.below.os, hI.below.tape, hI.below.output, hI.below.size, hI.below.block⟩
              have e135 : a.tmps.getD 135 undef = .agg #[.slice aT tl cT] := hI.rel 9 (by decide) (hdeps ⟨9, .data⟩ (by simp) rfl)
              refine Rg.wp_call1 rfl (enters_of Tryd.func18 (by kernel_rfl) rfl) ?_
              rw [e135]
              refine (HCT.out w' hbw).mono ?_
              rintro e w'' ⟨rfl, y⟩
              exact ⟨_, rfl, hK _ _ y rfl (fun h => absurd h (by decide))⟩
            refine ⟨fun _ => ⟨rfl, fun l a w' hI hdeps => ⟨?_, fun K hK => ?_⟩⟩, ?_⟩
            · exact Rg.wanted_none rfl
            · have hbw : Below W14.heap.size W14 w' := ⟨hI.below.os, hI.below.tape, hI.below.output, hI.below.size, hI.below.block⟩
              have e134 : a.tmps.getD 134 undef = .int .i64 (qs : Nat) := hI.rel 8 (by decide) (hdeps ⟨8, .data⟩ (by simp) rfl)
              have e136 : a.tmps.getD 136 undef = .int .i64 (qt : Nat) := hI.rel 10 (by decide) (hdeps ⟨10, .data⟩ (by simp) rfl)
              exact Rg.wp_add rfl e134 e136 HAD2.out (hK _ _ (Below.refl _ _) rfl (fun h => absurd h (by decide)))
            refine ⟨fun _ => ⟨rfl, fun l a w' hI hdeps => ⟨?_, fun K hK => ?_⟩⟩, ?_⟩
            · exact Rg.wanted_none rfl
            · have hbw : Below W14.heap.size W14 w' := ⟨hI.below.os, hI.below.tape, hI.below.output, hI.below.size, hI.below.block⟩
              have e132 : a.tmps.getD 132 undef = .int .i64 (qz : Nat) := hI.rel 6 (by decide) (hdeps ⟨6, .data⟩ (by simp) rfl)
              have e137 : a.tmps.getD 137 undef = .int .i64 (qz : Nat) := hI.rel 11 (by decide) (hdeps ⟨11, .data⟩ (by simp) rfl)
              exact Rg.wp_eql rfl e132 e137 (by simp) (hK _ _ (Below.refl _ _) rfl (fun h => absurd h (by decide)))
            refine ⟨fun _ => ⟨rfl, fun l a w' hI hdeps => ⟨?_, fun K hK => ?_⟩⟩, ?_⟩
            · exact Rg.wanted_none rfl
            · have hbw : Below W14.heap.size W14 w' := ⟨hI.below.os, hI.below.tape, hI.below.output, hI.below.size, hI.below.block⟩
              have e138 : a.tmps.getD 138 undef = .bool true := hI.rel 12 (by decide) (hdeps ⟨12, .data⟩ (by simp) rfl)
              exact Rg.wp_move rfl (hK _ _ (Below.refl _ _) e138 (fun h => absurd h (by decide)))
            refine ⟨fun _ => ⟨rfl, fun l a w' hI hdeps => ⟨?_, fun K hK => ?_⟩⟩, ?_⟩
            · exact Rg.wanted_some (d := 139) rfl rfl rfl (by rw [hI.slots]; decide) (hI.rel 13 (by decide) (hdeps ⟨13, .guard⟩ (by simp) rfl))
            · have hbw : Below W14.heap.size W14 w' := ⟨hI.below.os, hI.below.tape, hI.below.output, hI.below.size, hI.below.block⟩
              have e23 : a.tmps.getD 23 undef = .pointer (some ⟨g23, 0, none⟩) := hI.rest 23 (by decide) (by decide)
              exact Rg.wp_load29 rfl e23 ((hXO.on hbw).cell0) (hK _ _ (Below.refl _ _) rfl (fun h => absurd h (by decide)))
            refine ⟨fun _ => ⟨rfl, fun l a w' hI hdeps => ⟨?_, fun K hK => ?_⟩⟩, ?_⟩
            · exact Rg.wanted_some (d := 139) rfl rfl rfl (by rw [hI.slots]; decide) (hI.rel 13 (by decide) (hdeps ⟨13, .guard⟩ (by simp) rfl))
            · have hbw : Below W14.heap.size W14 w' := ⟨hI.below.os, hI.below.tape, hI.below.output, hI.below.size, hI.below.block⟩
              have e140 : a.tmps.getD 140 undef = .agg #[.slice aO ol cO] := hI.rel 14 (by decide) (hdeps ⟨14, .data⟩ (by simp) rfl)
              refine Rg.wp_call1 rfl (enters_of Tryd.func35 (by kernel_rfl) rfl) ?_
              rw [e140]
              refine (HNO.out w' hbw).mono ?_
              rintro e w'' ⟨v, S', rfl, hset, hmem, y⟩
              exact ⟨_, rfl, hK _ _ y ⟨S', hset, hmem⟩ (fun h => absurd h (by decide))⟩
            refine ⟨fun _ => ⟨rfl, fun l a w' hI hdeps => ⟨?_, fun K hK => ?_⟩⟩, ?_⟩
            · exact Rg.wanted_some (d := 139) rfl rfl rfl (by rw [hI.slots]; decide) (hI.rel 13 (by decide) (hdeps ⟨13, .guard⟩ (by simp) rfl))
            · have hbw : Below W14.heap.size W14 w' := ⟨hI.below.os, hI.below.tape, hI.below.output, hI.below.size, hI.below.block⟩
              have e9 : a.tmps.getD 9 undef = .pointer (some ⟨g9, 0, none⟩) := hI.rest 9 (by decide) (by decide)
              exact Rg.wp_load29 rfl e9 ((hX11.on hbw).cell0) (hK _ _ (Below.refl _ _) rfl (fun h => absurd h (by decide)))
            refine ⟨fun _ => ⟨rfl, fun l a w' hI hdeps => ⟨?_, fun K hK => ?_⟩⟩, ?_⟩
            · exact Rg.wanted_some (d := 139) rfl rfl rfl (by rw [hI.slots]; decide) (hI.rel 13 (by decide) (hdeps ⟨13, .guard⟩ (by simp) rfl))
            · have hbw : Below W14.heap.size W14 w' := ⟨hI.below.os, hI.below.tape, hI.below.output, hI.below.size, hI.below.block⟩
              have e142 : a.tmps.getD 142 undef = .agg #[.slice ao sl cp] := hI.rel 16 (by decide) (hdeps ⟨16, .data⟩ (by simp) rfl)
              refine Rg.wp_call1 rfl (enters_of Tryd.func35 (by kernel_rfl) rfl) ?_
              rw [e142]
              refine (HNS.out w' hbw).mono ?_
              rintro e w'' ⟨v, S', rfl, hset, hmem, y⟩
              exact ⟨_, rfl, hK _ _ y ⟨S', hset, hmem⟩ (fun h => absurd h (by decide))⟩
            refine ⟨fun _ => ⟨rfl, fun l a w' hI hdeps => ⟨?_, fun K hK => ?_⟩⟩, ?_⟩
            · exact Rg.wanted_some (d := 139) rfl rfl rfl (by rw [hI.slots]; decide) (hI.rel 13 (by decide) (hdeps ⟨13, .guard⟩ (by simp) rfl))
            · have hbw : Below W14.heap.size W14 w' := ⟨hI.below.os, hI.below.tape, hI.below.output, hI.below.size, hI.below.block⟩
              have e22 : a.tmps.getD 22 undef = .pointer (some ⟨g22, 0, none⟩) := hI.rest 22 (by decide) (by decide)
              exact Rg.wp_load29 rfl e22 ((hXT11.on hbw).cell0) (hK _ _ (Below.refl _ _) rfl (fun h => absurd h (by decide)))
            refine ⟨fun _ => ⟨rfl, fun l a w' hI hdeps => ⟨?_, fun K hK => ?_⟩⟩, ?_⟩
            · exact Rg.wanted_some (d := 139) rfl rfl rfl (by rw [hI.slots]; decide) (hI.rel 13 (by decide) (hdeps ⟨13, .guard⟩ (by simp) rfl))
            · have hbw : Below W14.heap.size W14 w' := ⟨hI.below.os, hI.below.tape, hI.below.output, hI.below.size, hI.below.block⟩
              have e144 : a.tmps.getD 144 undef = .agg #[.slice aT tl cT] := hI.rel 18 (by decide) (hdeps ⟨18, .data⟩ (by simp) rfl)
              refine Rg.wp_call1 rfl (enters_of Tryd.func35 (by kernel_rfl) rfl) ?_
              rw [e144]
              refine (HNT.out w' hbw).mono ?_
              rintro e w'' ⟨v, S', rfl, hset, hmem, y⟩
              exact ⟨_, rfl, hK _ _ y ⟨S', hset, hmem⟩ (fun h => absurd h (by decide))⟩
            refine ⟨fun _ => ⟨rfl, fun l a w' hI hdeps => ⟨?_, fun K hK => ?_⟩⟩, ?_⟩
            · exact Rg.wanted_some (d := 139) rfl rfl rfl (by rw [hI.slots]; decide) (hI.rel 13 (by decide) (hdeps ⟨13, .guard⟩ (by simp) rfl))
            · have hbw : Below W14.heap.size W14 w' := ⟨hI.below.os, hI.below.tape, hI.below.output, hI.below.size, hI.below.block⟩
              obtain ⟨S143, i143, m143⟩ : ∃ S', IsSet w' (a.tmps.getD 143 undef) S' ∧ ∀ c, memS S' c = (fun c => allB c && !memS S c) c := hI.rel 17 (by decide) (hdeps ⟨17, .data⟩ (by simp) rfl)
              obtain ⟨S145, i145, m145⟩ : ∃ S', IsSet w' (a.tmps.getD 145 undef) S' ∧ ∀ c, memS S' c = (fun c => allB c && !memS T c) c := hI.rel 19 (by decide) (hdeps ⟨19, .data⟩ (by simp) rfl)
              refine Rg.wp_call2 rfl (enters_of Tryd.func29 (by kernel_rfl) rfl) ?_
              refine (HAN.out w' _ _ _ _ i143 m143 i145 m145).mono ?_
              rintro e w'' ⟨v, S', rfl, hset, hmem, y⟩
              exact ⟨_, rfl, hK _ _ y ⟨S', hset, hmem⟩ (fun h => absurd h (by decide))⟩
            refine ⟨fun _ => ⟨rfl, fun l a w' hI hdeps => ⟨?_, fun K hK => ?_⟩⟩, ?_⟩
            · exact Rg.wanted_some (d := 139) rfl rfl rfl (by rw [hI.slots]; decide) (hI.rel 13 (by decide) (hdeps ⟨13, .guard⟩ (by simp) rfl))
            · have hbw : Below W14.heap.size W14 w' := ⟨hI.below.os, hI.below.tape, hI.below.output, hI.below.size, hI.below.block⟩
              obtain ⟨S141, i141, m141⟩ : ∃ S', IsSet w' (a.tmps.getD 141 undef) S' ∧ ∀ c, memS S' c = (fun c => allB c && !memS O c) c := hI.rel 15 (by decide) (hdeps ⟨15, .data⟩ (by simp) rfl)
              obtain ⟨S146, i146, m146⟩ : ∃ S', IsSet w' (a.tmps.getD 146 undef) S' ∧ ∀ c, memS S' c = (fun c => (allB c && !memS S c) && (allB c && !memS T c)) c := hI.rel 20 (by decide) (hdeps ⟨20, .data⟩ (by simp) rfl)
              refine Rg.wp_call2 rfl (enters_of Tryd.func38 (by kernel_rfl) rfl) ?_
              refine (HSM1.out w' _ _ _ _ i141 m141 i146 m146).mono ?_
              rintro e w'' ⟨rfl, y⟩
              exact ⟨_, rfl, hK _ _ y rfl (fun h => absurd h (by decide))⟩
            refine ⟨fun _ => ⟨rfl, fun l a w' hI hdeps => ⟨?_, fun K hK => ?_⟩⟩, ?_⟩
            · exact Rg.wanted_none rfl
            · have hbw : Below W14.heap.size W14 w' := ⟨hI.below.os, hI.below.tape, hI.below.output, hI.below.size, hI.below.block⟩
              have e139 : a.tmps.getD 139 undef = .bool true := hI.rel 13 (by decide) (hdeps ⟨13, .data⟩ (by simp) rfl)
              have e147 : a.tmps.getD 147 undef = .bool true := hI.rel 21 (by decide) (hdeps ⟨21, .data⟩ (by simp) rfl)
              exact Rg.wp_pick_yes rfl e139 (hK _ _ (Below.refl _ _) e147 (fun h => absurd h (by decide)))
            refine ⟨fun _ => ⟨rfl, fun l a w' hI hdeps => ⟨?_, fun K hK => ?_⟩⟩, ?_⟩
            · exact Rg.wanted_none rfl
            · have hbw : Below W14.heap.size W14 w' := ⟨hI.below.os, hI.below.tape, hI.below.output, hI.below.size, hI.below.block⟩
              have e148 : a.tmps.getD 148 undef = .bool true := hI.rel 22 (by decide) (hdeps ⟨22, .data⟩ (by simp) rfl)
              exact Rg.wp_move rfl (hK _ _ (Below.refl _ _) e148 (fun h => absurd h (by decide)))
            refine ⟨fun _ => ⟨rfl, fun l a w' hI hdeps => ⟨?_, fun K hK => ?_⟩⟩, ?_⟩
            · exact Rg.wanted_some (d := 149) rfl rfl rfl (by rw [hI.slots]; decide) (hI.rel 23 (by decide) (hdeps ⟨23, .guard⟩ (by simp) rfl))
            · have hbw : Below W14.heap.size W14 w' := ⟨hI.below.os, hI.below.tape, hI.below.output, hI.below.size, hI.below.block⟩
              have e9 : a.tmps.getD 9 undef = .pointer (some ⟨g9, 0, none⟩) := hI.rest 9 (by decide) (by decide)
              exact Rg.wp_load29 rfl e9 ((hX11.on hbw).cell0) (hK _ _ (Below.refl _ _) rfl (fun h => absurd h (by decide)))
            refine ⟨fun _ => ⟨rfl, fun l a w' hI hdeps => ⟨?_, fun K hK => ?_⟩⟩, ?_⟩
            · exact Rg.wanted_some (d := 149) rfl rfl rfl (by rw [hI.slots]; decide) (hI.rel 23 (by decide) (hdeps ⟨23, .guard⟩ (by simp) rfl))
            · have hbw : Below W14.heap.size W14 w' := ⟨hI.below.os, hI.below.tape, hI.below.output, hI.below.size, hI.below.block⟩
              have e22 : a.tmps.getD 22 undef = .pointer (some ⟨g22, 0, none⟩) := hI.rest 22 (by decide) (by decide)
              exact Rg.wp_load29 rfl e22 ((hXT11.on hbw).cell0) (hK _ _ (Below.refl _ _) rfl (fun h => absurd h (by decide)))
            refine ⟨fun _ => ⟨rfl, fun l a w' hI hdeps => ⟨?_, fun K hK => ?_⟩⟩, ?_⟩
            · exact Rg.wanted_some (d := 149) rfl rfl rfl (by rw [hI.slots]; decide) (hI.rel 23 (by decide) (hdeps ⟨23, .guard⟩ (by simp) rfl))
            · have hbw : Below W14.heap.size W14 w' := ⟨hI.below.os, hI.below.tape, hI.below.output, hI.below.size, hI.below.block⟩
              have e150 : a.tmps.getD 150 undef = .agg #[.slice ao sl cp] := hI.rel 24 (by decide) (hdeps ⟨24, .data⟩ (by simp) rfl)
              have e151 : a.tmps.getD 151 undef = .agg #[.slice aT tl cT] := hI.rel 25 (by decide) (hdeps ⟨25, .data⟩ (by simp) rfl)
              refine Rg.wp_call2 rfl (enters_of Tryd.func33 (by kernel_rfl) rfl) ?_
              rw [e150, e151]
              refine (HXR.out w' hbw).mono ?_
              rintro e w'' ⟨v, S', rfl, hset, hmem, y⟩
              exact ⟨_, rfl, hK _ _ y ⟨S', hset, hmem⟩ (fun h => absurd h (by decide))⟩
            refine ⟨fun _ => ⟨rfl, fun l a w' hI hdeps => ⟨?_, fun K hK => ?_⟩⟩, ?_⟩
            · exact Rg.wanted_some (d := 149) rfl rfl rfl (by rw [hI.slots]; decide) (hI.rel 23 (by decide) (hdeps ⟨23, .guard⟩ (by simp) rfl))
            · have hbw : Below W14.heap.size W14 w' := ⟨hI.below.os, hI.below.tape, hI.below.output, hI.below.size, hI.below.block⟩
              have e23 : a.tmps.getD 23 undef = .pointer (some ⟨g23, 0, none⟩) := hI.rest 23 (by decide) (by decide)
              exact Rg.wp_load29 rfl e23 ((hXO.on hbw).cell0) (hK _ _ (Below.refl _ _) rfl (fun h => absurd h (by decide)))
            refine ⟨fun _ => ⟨rfl, fun l a w' hI hdeps => ⟨?_, fun K hK => ?_⟩⟩, ?_⟩
            · exact Rg.wanted_some (d := 149) rfl rfl rfl (by rw [hI.slots]; decide) (hI.rel 23 (by decide) (hdeps ⟨23, .guard⟩ (by simp) rfl))
            · have hbw : Below W14.heap.size W14 w' := ⟨hI.below.os, hI.below.tape, hI.below.output, hI.below.size, hI.below.block⟩
              have e9 : a.tmps.getD 9 undef = .pointer (some ⟨g9, 0, none⟩) := hI.rest 9 (by decide) (by decide)
              exact Rg.wp_load29 rfl e9 ((hX11.on hbw).cell0) (hK _ _ (Below.refl _ _) rfl (fun h => absurd h (by decide)))
            refine ⟨fun _ => ⟨rfl, fun l a w' hI hdeps => ⟨?_, fun K hK => ?_⟩⟩, ?_⟩
            · exact Rg.wanted_some (d := 149) rfl rfl rfl (by rw [hI.slots]; decide) (hI.rel 23 (by decide) (hdeps ⟨23, .guard⟩ (by simp) rfl))
            · have hbw : Below W14.heap.size W14 w' := ⟨hI.below.os, hI.below.tape, hI.below.output, hI.below.size, hI.below.block⟩
              have e22 : a.tmps.getD 22 undef = .pointer (some ⟨g22, 0, none⟩) := hI.rest 22 (by decide) (by decide)
              exact Rg.wp_load29 rfl e22 ((hXT11.on hbw).cell0) (hK _ _ (Below.refl _ _) rfl (fun h => absurd h (by decide)))
            refine ⟨fun _ => ⟨rfl, fun l a w' hI hdeps => ⟨?_, fun K hK => ?_⟩⟩, ?_⟩
            · exact Rg.wanted_some (d := 149) rfl rfl rfl (by rw [hI.slots]; decide) (hI.rel 23 (by decide) (hdeps ⟨23, .guard⟩ (by simp) rfl))
            · have hbw : Below W14.heap.size W14 w' := ⟨hI.below.os, hI.below.tape, hI.below.output, hI.below.size, hI.below.block⟩
              have e154 : a.tmps.getD 154 undef = .agg #[.slice ao sl cp] := hI.rel 28 (by decide) (hdeps ⟨28, .data⟩ (by simp) rfl)
              have e155 : a.tmps.getD 155 undef = .agg #[.slice aT tl cT] := hI.rel 29 (by decide) (hdeps ⟨29, .data⟩ (by simp) rfl)
              refine Rg.wp_call2 rfl (enters_of Tryd.func29 (by kernel_rfl) rfl) ?_
              rw [e154, e155]
              refine (HAND.out w' hbw).mono ?_
              rintro e w'' ⟨v, S', rfl, hset, hmem, y⟩
              exact ⟨_, rfl, hK _ _ y ⟨S', hset, hmem⟩ (fun h => absurd h (by decide))⟩
            refine ⟨fun _ => ⟨rfl, fun l a w' hI hdeps => ⟨?_, fun K hK => ?_⟩⟩, ?_⟩
            · exact Rg.wanted_some (d := 149) rfl rfl rfl (by rw [hI.slots]; decide) (hI.rel 23 (by decide) (hdeps ⟨23, .guard⟩ (by simp) rfl))
            · have hbw : Below W14.heap.size W14 w' := ⟨hI.below.os, hI.below.tape, hI.below.output, hI.below.size, hI.below.block⟩
              have e153 : a.tmps.getD 153 undef = .agg #[.slice aO ol cO] := hI.rel 27 (by decide) (hdeps ⟨27, .data⟩ (by simp) rfl)
              obtain ⟨S156, i156, m156⟩ : ∃ S', IsSet w' (a.tmps.getD 156 undef) S' ∧ ∀ c, memS S' c = (fun c => (fun a b => (a && b)) (memS S c) (memS T c)) c := hI.rel 30 (by decide) (hdeps ⟨30, .data⟩ (by simp) rfl)
              refine Rg.wp_call2 rfl (enters_of Tryd.func31 (by kernel_rfl) rfl) ?_
              rw [e153]
              refine (HLE.out w' hbw _ _ i156 m156).mono ?_
              rintro e w'' ⟨v, S', rfl, hset, hmem, y⟩
              exact ⟨_, rfl, hK _ _ y ⟨S', hset, hmem⟩ (fun h => absurd h (by decide))⟩
            refine ⟨fun _ => ⟨rfl, fun l a w' hI hdeps => ⟨?_, fun K hK => ?_⟩⟩, ?_⟩
            · exact Rg.wanted_some (d := 149) rfl rfl rfl (by rw [hI.slots]; decide) (hI.rel 23 (by decide) (hdeps ⟨23, .guard⟩ (by simp) rfl))
            · have hbw : Below W14.heap.size W14 w' := ⟨hI.below.os, hI.below.tape, hI.below.output, hI.below.size, hI.below.block⟩
              obtain ⟨S152, i152, m152⟩ : ∃ S', IsSet w' (a.tmps.getD 152 undef) S' ∧ ∀ c, memS S' c = (fun c => (fun a b => (a != b)) (memS S c) (memS T c)) c := hI.rel 26 (by decide) (hdeps ⟨26, .data⟩ (by simp) rfl)
              obtain ⟨S157, i157, m157⟩ : ∃ S', IsSet w' (a.tmps.getD 157 undef) S' ∧ ∀ c, memS S' c = (fun c => memS O c && !(memS S c && memS T c)) c := hI.rel 31 (by decide) (hdeps ⟨31, .data⟩ (by simp) rfl)
              refine Rg.wp_call2 rfl (enters_of Tryd.func38 (by kernel_rfl) rfl) ?_
              refine (HSM2.out w' _ _ _ _ i152 m152 i157 m157).mono ?_
              rintro e w'' ⟨rfl, y⟩
              exact ⟨_, rfl, hK _ _ y rfl (fun h => absurd h (by decide))⟩
            refine ⟨fun _ => ⟨rfl, fun l a w' hI hdeps => ⟨?_, fun K hK => ?_⟩⟩, ?_⟩
            · exact Rg.wanted_none rfl
            · have hbw : Below W14.heap.size W14 w' := ⟨hI.below.os, hI.below.tape, hI.below.output, hI.below.size, hI.below.block⟩
              have e149 : a.tmps.getD 149 undef = .bool true := hI.rel 23 (by decide) (hdeps ⟨23, .data⟩ (by simp) rfl)
              have e158 : a.tmps.getD 158 undef = .bool true := hI.rel 32 (by decide) (hdeps ⟨32, .data⟩ (by simp) rfl)
              exact Rg.wp_pick_yes rfl e149 (hK _ _ (Below.refl _ _) e158 (fun h => absurd h (by decide)))
            refine ⟨fun _ => ⟨rfl, fun l a w' hI hdeps => ⟨?_, fun K hK => ?_⟩⟩, ?_⟩
            · exact Rg.wanted_none rfl
            · have hbw : Below W14.heap.size W14 w' := ⟨hI.below.os, hI.below.tape, hI.below.output, hI.below.size, hI.below.block⟩
              have e159 : a.tmps.getD 159 undef = .bool true := hI.rel 33 (by decide) (hdeps ⟨33, .data⟩ (by simp) rfl)
              exact Rg.wp_assign rfl (hK _ _ (Below.refl _ _) e159 (fun h => absurd h (by decide)))
            trivial
end Go.Proofs.YtccbofaefpbhlaaDoor
