/-
  The laws' Char, Chars; the document's Compare, utf.Compare: their contracts.
-/
import Derived.Test.YtobfhidajcnfdabDoorUM
namespace Go.Proofs.YtobfhidajcnfdabDoor
set_option linter.unusedVariables false
set_option maxRecDepth 20000
open Go.RowKit Go.Lib

theorem i64_and21 (n : Int) : bits .and .i64 n 2097151 = n % 2097152 := by
  have h127 : (BitVec.ofInt 64 2097151).toNat = 2 ^ 21 - 1 := by decide
  have key : (BitVec.ofInt 64 n &&& BitVec.ofInt 64 2097151).toNat = (n % ((2 ^ 64 : Nat) : Int)).toNat % 2 ^ 21 := by
    rw [BitVec.toNat_and, BitVec.toNat_ofInt, h127, Nat.and_two_pow_sub_one_eq_mod]
  show IntKind.i64.wrap ((BitVec.ofInt 64 n &&& BitVec.ofInt 64 2097151).toNat : Nat) = n % 2097152
  rw [key, IntKind.wrap_i64]
  omega
theorem i64_and11 (n : Int) : bits .and .i64 n 2047 = n % 2048 := by
  have h127 : (BitVec.ofInt 64 2047).toNat = 2 ^ 11 - 1 := by decide
  have key : (BitVec.ofInt 64 n &&& BitVec.ofInt 64 2047).toNat = (n % ((2 ^ 64 : Nat) : Int)).toNat % 2 ^ 11 := by
    rw [BitVec.toNat_and, BitVec.toNat_ofInt, h127, Nat.and_two_pow_sub_one_eq_mod]
  show IntKind.i64.wrap ((BitVec.ofInt 64 n &&& BitVec.ofInt 64 2047).toNat : Nat) = n % 2048
  rw [key, IntKind.wrap_i64]
  omega

theorem char_any (x : Int) (w : World) : Calls Tryd.prog 29 #[.int .i64 x] w fun e w' => ∃ d : Nat, isC d ∧ e = .returned (.int .i32 (d : Nat)) ∧ Below w.heap.size w w' := by
  obtain ⟨c, hc⟩ : ∃ c, bits .and .i64 x 2097151 = c := ⟨_, rfl⟩
  have hcr : 0 ≤ c ∧ c < 2097152 := by
    rw [← hc, i64_and21]
    omega
  obtain ⟨hc0, hc1⟩ := hcr
  have HI := Lib.hid fun W => refIs_any c W
  rcases hi : isI c with _ | _
  · rw [hi] at HI
    obtain ⟨d, hd⟩ : ∃ d : Int, bits .and .i64 c 2047 = d := ⟨_, rfl⟩
    have hdr : 0 ≤ d ∧ d < 2048 := by
      rw [← hd, i64_and11]
      omega
    obtain ⟨hd0, hd1⟩ := hdr
    go_enter Tryd.func29, Tryd.ntmps29
    go_wp2_with fail
    refine (HI.out _).mono ?_
    rintro e w2 ⟨rfl, y2⟩
    go_wp2
    go_ret
    obtain ⟨q, rfl⟩ : ∃ q : Nat, d = q := ⟨d.toNat, by omega⟩
    exact ⟨q, .inl (by omega), rfl, y2⟩
  · rw [hi] at HI
    have hv := ((isI_iff c).1 hi).2
    go_enter Tryd.func29, Tryd.ntmps29
    go_wp2_with fail
    refine (HI.out _).mono ?_
    rintro e w2 ⟨rfl, y2⟩
    go_wp2
    go_ret
    obtain ⟨q, rfl⟩ : ∃ q : Nat, c = q := ⟨c.toNat, by omega⟩
    exact ⟨q, by simpa using hv, rfl, y2⟩

/-- It answers some characters, in a row of its own. -/
def RetCh (n : Nat) (w : World) (e : Ending) (w' : World) : Prop := ∃ (cs : List Nat) (u : Value), e = .returned u ∧ cs.length ≤ n ∧ (∀ x ∈ cs, isC x) ∧ w'.ownsRow w.heap.size 21 1 u cs.length (cellsOf .i32 cs) ∧ Below w.heap.size w w'

set_option maxHeartbeats 2000000 in
theorem chars_any (A : Option Addr) (len cap : Nat) (l : List Int) (w : World) (hr : RowI .i64 w A l) (hl : l.length = len) : Calls Tryd.prog 23 #[.slice A len cap, .int .i64 30] w (RetCh 30 w) := by
  obtain ⟨i0, hi, hz0, hz1, hz2⟩ := info_parts rune_info
  go_enter Tryd.func23, Tryd.ntmps23
  go_wp2_with fail
  go_loopw [5, 6] (fun u5 i6 wx => ∃ (i : Nat) (cs : List Nat), i ≤ 30 ∧ i6 = .int .i64 i ∧ cs.length = i ∧ Hid (∀ x ∈ cs, isC x) ∧ wx.ownsRow w.heap.size 21 1 u5 i (cellsOf .i32 cs) ∧ Below w.heap.size w wx) (fun _ i6 _ => 30 - (RowKit.intOf i6).toNat)
  case atStart => exact ⟨0, [], by omega, rfl, rfl, by simp [Hid], own_nil _ _ _, Below.refl _ _⟩
  case round =>
    obtain ⟨i, cs, hi30, rfl, hcs, hall, hrow, hb1⟩ := hrel
    have hb1s := hb1.size
    obtain ⟨ao, cp, rfl⟩ := own_form hrow
    by_cases hin : i < len ∧ i < 30
    · obtain ⟨hi1, hi2⟩ := hin
      obtain ⟨ad, rfl, _, hc1⟩ := (hr.below hb1).at_ (i := i) (by omega)
      generalize l.getD i 0 = x at *
      have hi3 : (i : Int) < 30 := by omega
      go_wp2_with fail
      refine (char_any x _).mono ?_
      rintro e w2 ⟨d, hd, rfl, y2⟩
      have hrow2 := own_kept hrow y2
      have hb2 := below_step hb1 y2
      have hb2s := hb2.size
      have hdl := hd.le
      replace hd := Lib.hid hd
      go_wp2_with (at_builtin; refine wpList_append_own _ rfl (.tmp 18) (.tmp 24) 29 rfl w.heap.size 21 i0 (.int .i32 0) 1 4 Tryd.underlying29 hi hz0 hz1 hz2 rfl (by decide) _ i _ rfl (hrow2.alloc _) ⟨w2.heap.size, 0, none⟩ 1 1 [.int .i32 (d : Nat)] rfl rfl (cell_one_new _ _ _) (by simp [Value.oneCell']) (by unfold maxLen; omega) (by omega) (by simp; omega) ?_; intro v' w3 hown3 hgrow _; have hb3 : Below w.heap.size w w3 := (hb2.alloc hb2s _).grown hgrow (by simp; omega) (fun k hk => (hrow2.lt k hk).1); clear hgrow)
      go_roundw
      case rel => exact ⟨i + 1, cs ++ [d], by omega, by go_num, by simp [hcs], fun z hz => by
        rcases List.mem_append.1 hz with h5 | h5
        · exact hall.out z h5
        · rw [List.mem_singleton.1 h5]; exact hd.out, by rw [cellsOf_append]; simpa [cellsOf] using hown3, hb3⟩
      case measure => simp [RowKit.intOf]; omega
    · by_cases hi1 : i < len
      · obtain rfl : i = 30 := by omega
        go_wp2
        go_ret
        exact ⟨cs, _, rfl, by omega, hall.out, by rw [hcs]; exact hrow, hb1⟩
      · have hi1' : (len : Int) ≤ i := by omega
        go_wp2
        go_ret
        exact ⟨cs, _, rfl, by omega, hall.out, by rw [hcs]; exact hrow, hb1⟩

theorem below_dn (w : World) (n : Nat) : Below w.heap.size w (w.drewN n) := ⟨rfl, rfl, rfl, Nat.le_refl _, fun _ _ => rfl⟩
theorem drop_get {l : List Nat} {i : Nat} (h : i < l.length) : l.drop i = l.getD i 0 :: l.drop (i + 1) := by
  rw [List.drop_eq_getElem_cons h]
  simp [List.getD, h]

set_option maxHeartbeats 4000000 in
theorem refCompare_any (A B : Option Addr) (n m c d : Nat) (la lb : List Nat) (w : World) (hA : Row .i64 w A la) (hB : Row .i64 w B lb) (hn : la.length = n) (hm : lb.length = m) (hn6 : n ≤ 1000000) (hm6 : m ≤ 1000000) :
    Calls Tryd.prog 25 #[.slice A n c, .slice B m d] w (RetV (.int .i64 (cmpL la lb)) w) := by
  obtain ⟨r, hrr⟩ : ∃ r, Hid (cmpL la lb = r) := ⟨_, rfl⟩
  rw [hrr.out]
  go_enter Tryd.func25, Tryd.ntmps25
  go_wp2_with fail
  go_loopw [5] (fun i5 wx => ∃ i : Nat, i ≤ n ∧ i ≤ m ∧ i5 = .int .i64 i ∧ Hid (r = cmpL (la.drop i) (lb.drop i)) ∧ Below w.heap.size w wx) (fun i5 _ => n - (RowKit.intOf i5).toNat)
  case atStart => exact ⟨0, by omega, by omega, rfl, by simpa [Hid] using hrr.out.symm, Below.refl _ _⟩
  case round =>
    obtain ⟨i, hin, him, rfl, hres, hb1⟩ := hrel
    by_cases h1 : i < n
    · by_cases h2 : i < m
      · obtain ⟨ad, rfl, _, hc1⟩ := (hA.below hb1).at_ (i := i) (by omega)
        obtain ⟨bd, rfl, _, hc2⟩ := (hB.below hb1).at_ (i := i) (by omega)
        have hres := hres.out
        rw [drop_get (l := la) (by omega), drop_get (l := lb) (by omega)] at hres
        generalize la.getD i 0 = x at *
        generalize lb.getD i 0 = y at *
        have hres : r = if x < y then -1 else if y < x then 1 else cmpL (la.drop (i + 1)) (lb.drop (i + 1)) := hres
        rcases Nat.lt_trichotomy x y with h3 | h3 | h3
        · rw [if_pos h3] at hres
          subst hres
          have h3' : decide ((x : Int) < (y : Int)) = true := by simp; omega
          have h3i : (x : Int) < (y : Int) := by omega
          go_wp2_with fail
          go_quiet (fail)
          go_wp2
          go_ret
          exact ⟨rfl, below_step hb1 (below_dn _ _)⟩
        · subst h3
          rw [if_neg (Nat.lt_irrefl _), if_neg (Nat.lt_irrefl _)] at hres
          have h3' : decide ((x : Int) < (x : Int)) = false := by simp
          replace hres := Lib.hid hres
          go_wp2_with fail
          go_quiet (fail)
          go_wp2_with fail
          go_quiet (fail)
          go_wp2
          go_roundw
          case rel => exact ⟨i + 1, by omega, by omega, by go_num, hres, below_step hb1 (below_dn _ _)⟩
          case measure => simp [RowKit.intOf]; omega
        · rw [if_neg (by omega), if_pos h3] at hres
          subst hres
          have h3' : decide ((x : Int) < (y : Int)) = false := by simp; omega
          have h3i : (y : Int) < (x : Int) := by omega
          have h3j : (y : Int) ≤ (x : Int) := by omega
          go_wp2_with fail
          go_quiet (fail)
          go_wp2_with fail
          go_quiet (fail)
          go_wp2
          go_ret
          exact ⟨rfl, below_step hb1 (below_step (below_dn _ _) (below_dn _ _))⟩
      · obtain rfl : i = m := by omega
        have hres := hres.out
        rw [drop_get (l := la) (by omega), List.drop_of_length_le (show lb.length ≤ i by omega)] at hres
        have hres : r = 1 := hres
        subst hres
        have h4 : ¬ (n : Int) < i := by omega
        have h5 : (i : Int) < n := by omega
        go_wp2
        go_ret
        exact ⟨rfl, hb1⟩
    · obtain rfl : i = n := by omega
      have hres := hres.out
      rw [List.drop_of_length_le (show la.length ≤ i by omega)] at hres
      by_cases h2 : i < m
      · rw [drop_get (l := lb) (by omega)] at hres
        have hres : r = -1 := hres
        subst hres
        have h5 : (i : Int) < m := by omega
        go_wp2
        go_ret
        exact ⟨rfl, hb1⟩
      · obtain rfl : i = m := by omega
        rw [List.drop_of_length_le (show lb.length ≤ i by omega)] at hres
        have hres : r = 0 := hres
        subst hres
        go_wp2
        go_ret
        exact ⟨rfl, hb1⟩

theorem compare_any (s t : ByteArray) (r : Int) (w : World) (hr : compareBytes s.data.toList t.data.toList = r) : Calls Tryd.prog 24 #[.string s, .string t] w (RetV (.int .i64 r) w) := by
  have H := Lib.hid (Tryd.strings_Compare s t w)
  rw [hr] at H
  go_enter Tryd.func24, Tryd.ntmps24
  go_wp2_with fail
  refine H.out.mono ?_
  rintro e w1 ⟨rfl, rfl⟩
  go_wp2
  go_ret
  exact ⟨rfl, Below.refl _ _⟩

theorem decoded {a b : List Nat} (ha : ∀ x ∈ a, isC x) (hb : ∀ x ∈ b, isC x) (h : encs a = encs b) : a = b := by
  have h1 := splits_encs ha
  rw [h] at h1
  exact (h1.inj (splits_encs hb)).1

set_option maxHeartbeats 8000000 in
theorem utfCompares_walk (A : Option Addr) (len cap : Nat) (la : List Int) (B : Option Addr) (len' cap' : Nat) (lb : List Int) (w : World) (he : Env w) (hA : RowI .i64 w A la) (hla : la.length = len) (hB : RowI .i64 w B lb) (hlb : lb.length = len') :
    Calls Tryd.prog 6 #[.slice A len cap, .slice B len' cap'] w (RetV (.bool true) w) := by
  go_enter Tryd.func6, Tryd.ntmps6
  go_wp2_with fail
  refine (awake_any _ he).mono ?_
  rintro e w1 ⟨rfl, b1⟩
  go_wp2_with fail
  refine (chars_any A len cap la _ (hA.below b1) hla).mono ?_
  rintro e w2 ⟨cs, u2, rfl, hcl, hcs, ho2, y2⟩
  obtain ⟨A2, c2, rfl, hr2, _⟩ := own_isL ho2
  have b2 := below_step b1 y2
  go_wp2_with fail
  refine (chars_any B len' cap' lb _ (hB.below b2) hlb).mono ?_
  rintro e w3 ⟨ds, u3, rfl, hdl, hds, ho3, y3⟩
  obtain ⟨A3, c3, rfl, hr3, _⟩ := own_isL ho3
  have hr2 := hr2.below y3
  have b3 := below_step b2 y3
  obtain ⟨S, hS⟩ : ∃ S : ByteArray, Hid (S = ⟨(encs cs).toArray⟩) := ⟨_, rfl⟩
  obtain ⟨T, hT⟩ : ∃ T : ByteArray, Hid (T = ⟨(encs ds).toArray⟩) := ⟨_, rfl⟩
  have hST : compareBytes S.data.toList T.data.toList = cmpL cs ds := by
    rw [hS.out, hT.out]; simpa using compare_encs hcs hds
  have hTS : compareBytes T.data.toList S.data.toList = -cmpL cs ds := by
    rw [hS.out, hT.out, ← cmpL_flip]; simpa using compare_encs hds hcs
  have hzero : (cmpL cs ds == 0) = (S.toList == T.toList) := by
    rw [Bool.eq_iff_iff, beq_iff_eq, beq_iff_eq, cmpL_zero, ByteArray.toList_eq, ByteArray.toList_eq, hS.out, hT.out]
    constructor
    · rintro rfl; rfl
    · intro h; exact decoded hcs hds (by simpa using h)
  have hgood : ∀ cs : List Nat, (∀ x ∈ cs, isC x) → ∀ x ∈ cs.map (fun x : Nat => (x : Int)), isI x = true := fun cs h x hx => by
    obtain ⟨y, hy, rfl⟩ := List.mem_map.1 hx
    exact (isI_iff _).2 ⟨by omega, by simpa using h y hy⟩
  have HE1 := Lib.hid fun W hW (hr : Row .i32 W A2 cs) => encode_any A2 cs.length c2 _ W hW hr.toI (by simp) (by omega) S 0 (.inl ⟨hgood cs hcs, by rw [chs_nat]; exact hS.out, rfl⟩)
  have HE2 := Lib.hid fun W hW (hr : Row .i32 W A3 ds) => encode_any A3 ds.length c3 _ W hW hr.toI (by simp) (by omega) T 0 (.inl ⟨hgood ds hds, by rw [chs_nat]; exact hT.out, rfl⟩)
  have HT1 := Lib.hid fun W (hr : Row .i32 W A2 cs) => told_any A2 c2 cs.length cs W hr rfl (by omega) hcs
  have HT2 := Lib.hid fun W (hr : Row .i32 W A3 ds) => told_any A3 c3 ds.length ds W hr rfl (by omega) hds
  have HC := Lib.hid fun A B c d W hA hB => refCompare_any A B cs.length ds.length c d cs ds W hA hB rfl rfl (by omega) (by omega)
  have hrange := cmpL_range cs ds
  generalize cmpL cs ds = r at *
  have HS := Lib.hid fun W => compare_any S T r W hST
  have HTS := Lib.hid fun W => compare_any T S (-r) W hTS
  clear hST hTS hS hT hgood hcs hds ho2 ho3 hA hB
  go_wp2_with fail
  refine (HE1.out _ (he.kept b3) hr2.row).mono ?_
  rintro e w4 ⟨rfl, y4⟩
  have b4 := below_step b3 y4
  have hr2 := hr2.below y4
  have hr3 := hr3.below y4
  go_wp2_with fail
  refine (HE2.out _ (he.kept b4) hr3.row).mono ?_
  rintro e w5 ⟨rfl, y5⟩
  have b5 := below_step b4 y5
  have hr2 := hr2.below y5
  have hr3 := hr3.below y5
  go_wp2_with fail
  refine (HS.out _).mono ?_
  rintro e w6 ⟨rfl, y6⟩
  have b6 := below_step b5 y6
  have hr2 := hr2.below y6
  have hr3 := hr3.below y6
  go_wp2_with fail
  refine (HT1.out _ hr2.row).mono ?_
  rintro e w7 ⟨u7, rfl, ho7, y7⟩
  obtain ⟨A7, c7, rfl, hr7, _⟩ := own_isL ho7
  have b7 := below_step b6 y7
  have hr3 := hr3.below y7
  go_wp2_with fail
  refine (HT2.out _ hr3.row).mono ?_
  rintro e w8 ⟨u8', rfl, ho8, y8⟩
  obtain ⟨A8, c8, rfl, hr8, _⟩ := own_isL ho8
  have b8 := below_step b7 y8
  have hr7 := hr7.below y8
  go_wp2_with fail
  refine (HC.out A7 A8 c7 c8 _ hr7.row hr8.row).mono ?_
  rintro e w9 ⟨rfl, y9⟩
  have b9 := below_step b8 y9
  have hr1 : -1 ≤ r := by omega
  have hr2' : r ≤ 1 := by omega
  go_wp2_with fail
  refine (HTS.out _).mono ?_
  rintro e w10 ⟨rfl, y10⟩
  have b10 := below_step b9 y10
  go_wp2
  go_ret
  exact ⟨by simp [hzero], b10⟩
end Go.Proofs.YtobfhidajcnfdabDoor
