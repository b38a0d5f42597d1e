/-
  The document's Decode: its contract; the walk of the law on Decode.
  The laws' Told, the document's Encode: their contracts.
  Texts go as their characters do; the laws' Char, Chars; the document's Compare.
  The laws' Char, Chars; the document's Compare, utf.Compare: their contracts.
-/
import Derived.Test.YtccbofaefpbhlaaDoorUJ
import Derived.Test.YtccbofaefpbhlaaDoorShelf
namespace Go.Proofs.YtccbofaefpbhlaaDoor.Utf
set_option linter.unusedVariables false
set_option maxRecDepth 20000
open Go.RowKit Go.Lib

theorem int_info : (Tryd.prog.info? 3).map (fun i => (i.zero, i.size, i.bytes)) = some (some (.int .i64 0), 1, 8) := by kernel_rfl
theorem own_empty (w : World) (e : TypeId) : (w.alloc (.cells #[] e)).ownsRow w.heap.size e 1 (.slice (some ⟨w.heap.size, 0, none⟩) 0 0) 0 [] :=
  ⟨rfl, .inr ⟨w.heap.size, 0, #[], rfl, Nat.le_refl _, Blk.new w e #[], Nat.le_refl _, by unfold maxLen; omega, rfl, rfl⟩⟩

/-- What the document's Decode answers. -/
def RetR (cs : List Nat) (rest : List UInt8) (w : World) (e : Ending) (w' : World) : Prop :=
  Below w.heap.size w w' ∧ ((rest = [] ∧ ∃ u, e = .returned (.tuple #[u, .int .i64 (-1)]) ∧ w'.ownsRow w.heap.size 3 1 u cs.length (cellsOf .i64 cs)) ∨ (rest ≠ [] ∧ e = .returned (.tuple #[.slice none 0 0, .int .i64 ((encs cs).length : Nat)])))

end Go.Proofs.YtccbofaefpbhlaaDoor.Utf

namespace Go.Proofs.YtccbofaefpbhlaaDoor.Utf
set_option linter.unusedVariables false
set_option maxRecDepth 20000
open Go.RowKit Go.Lib

theorem own_nil (w : World) (B : Nat) (e : TypeId) : w.ownsRow B e 1 (.slice none 0 0) 0 [] := ⟨rfl, .inl ⟨rfl, rfl⟩⟩
theorem getD_mem {cs : List Nat} {i : Nat} (h : i < cs.length) : cs.getD i 0 ∈ cs := by
  simp only [List.getD, List.getElem?_eq_getElem h, Option.getD_some]
  exact List.getElem_mem _
theorem take_succ {cs : List Nat} {i : Nat} (h : i < cs.length) : cs.take (i + 1) = cs.take i ++ [cs.getD i 0] := by
  rw [List.take_add_one]
  simp [List.getD, h]

/-- It answers numbers, in a row of its own. -/
def RetI (cs : List Nat) (w : World) (e : Ending) (w' : World) : Prop := ∃ u, e = .returned u ∧ w'.ownsRow w.heap.size 3 1 u cs.length (cellsOf .i64 cs) ∧ Below w.heap.size w w'

theorem cat_arrays (a b : List UInt8) : (⟨a.toArray⟩ : ByteArray) ++ ⟨b.toArray⟩ = ⟨(a ++ b).toArray⟩ := by
  apply ByteArray.ext
  rw [ByteArray.data_append]
  simp
theorem size_array (a : List UInt8) : (⟨a.toArray⟩ : ByteArray).size = a.length := by simp [ByteArray.size]

end Go.Proofs.YtccbofaefpbhlaaDoor.Utf

namespace Go.Proofs.YtccbofaefpbhlaaDoor.Utf
set_option linter.unusedVariables false
set_option maxRecDepth 20000
open Go.RowKit Go.Lib

/-- How two lists of numbers go. -/
def cmpL : List Nat → List Nat → Int
  | [], [] => 0
  | [], _ :: _ => -1
  | _ :: _, [] => 1
  | x :: a, y :: b => if x < y then -1 else if y < x then 1 else cmpL a b
theorem compare_pre : ∀ (p x y : List UInt8), compareBytes (p ++ x) (p ++ y) = compareBytes x y
  | [], _, _ => rfl
  | a :: p, x, y => by
    show (if a < a then -1 else if a < a then 1 else compareBytes (p ++ x) (p ++ y)) = _
    rw [if_neg (UInt8.lt_irrefl a), if_neg (UInt8.lt_irrefl a)]
    exact compare_pre p x y
theorem ofNat_lt {a b : Nat} (h : a < b) (hb : b < 256) : UInt8.ofNat a < UInt8.ofNat b := by
  rw [UInt8.lt_iff_toNat_lt, toNat_of (by omega), toNat_of hb]
  exact h
theorem compare_at (p x y : List UInt8) {u v : Nat} (h : u < v) (hv : v < 256) : compareBytes (p ++ UInt8.ofNat u :: x) (p ++ UInt8.ofNat v :: y) = -1 ∧ compareBytes (p ++ UInt8.ofNat v :: y) (p ++ UInt8.ofNat u :: x) = 1 := by
  have h1 := ofNat_lt h hv
  constructor
  · rw [compare_pre]
    show (if UInt8.ofNat u < UInt8.ofNat v then -1 else _) = _
    rw [if_pos h1]
  · rw [compare_pre]
    show (if UInt8.ofNat v < UInt8.ofNat u then -1 else if UInt8.ofNat u < UInt8.ofNat v then 1 else _) = _
    rw [if_neg (fun h2 => by rw [UInt8.lt_iff_toNat_lt] at h1 h2; omega), if_pos h1]
theorem enc_cut (c : Nat) : ∃ t, enc c = UInt8.ofNat (markW (wid c) + c / 64 ^ (wid c - 1)) :: t := ⟨_, enc_first c⟩

theorem enc_less {a b : Nat} (ha : isC a) (hb : isC b) (h : a < b) : ∃ (p x y : List UInt8) (u v : Nat), u < v ∧ v < 256 ∧ enc a = p ++ UInt8.ofNat u :: x ∧ enc b = p ++ UInt8.ofNat v :: y := by
  have hal := ha.le
  have hbl := hb.le
  rcases wid_range ha with ⟨wa, h1⟩ | ⟨wa, h1, h2⟩ | ⟨wa, h1, h2⟩ | ⟨wa, h1, h2⟩ <;> rcases wid_range hb with ⟨wb, h3⟩ | ⟨wb, h3, h4⟩ | ⟨wb, h3, h4⟩ | ⟨wb, h3, h4⟩
  all_goals first
    | (exfalso; omega)
    | skip
  · rw [enc1 h1, enc1 h3]
    exact ⟨[], [], [], a, b, h, by omega, rfl, rfl⟩
  · rw [enc1 h1, enc2 (by omega) h4]
    exact ⟨[], [], _, _, _, by omega, by omega, rfl, rfl⟩
  · rw [enc1 h1, enc3 (by omega) (by omega) h4]
    exact ⟨[], [], _, _, _, by omega, by omega, rfl, rfl⟩
  · rw [enc1 h1, enc4 (by omega) (by omega) (by omega)]
    exact ⟨[], [], _, _, _, by omega, by omega, rfl, rfl⟩
  · rw [enc2 (by omega) h2, enc2 (by omega) h4]
    by_cases h5 : a / 64 < b / 64
    · exact ⟨[], _, _, 192 + a / 64, 192 + b / 64, by omega, by omega, rfl, rfl⟩
    · rw [show a / 64 = b / 64 by omega]
      exact ⟨[_], [], [], 128 + a % 64, 128 + b % 64, by omega, by omega, rfl, rfl⟩
  · rw [enc2 (by omega) h2, enc3 (by omega) (by omega) h4]
    exact ⟨[], _, _, _, _, by omega, by omega, rfl, rfl⟩
  · rw [enc2 (by omega) h2, enc4 (by omega) (by omega) (by omega)]
    exact ⟨[], _, _, _, _, by omega, by omega, rfl, rfl⟩
  · rw [enc3 (by omega) (by omega) h2, enc3 (by omega) (by omega) h4]
    by_cases h5 : a / 4096 < b / 4096
    · exact ⟨[], _, _, 224 + a / 4096, 224 + b / 4096, by omega, by omega, rfl, rfl⟩
    · rw [show a / 4096 = b / 4096 by omega]
      by_cases h6 : a / 64 % 64 < b / 64 % 64
      · exact ⟨[_], _, _, 128 + a / 64 % 64, 128 + b / 64 % 64, by omega, by omega, rfl, rfl⟩
      · rw [show a / 64 % 64 = b / 64 % 64 by omega]
        exact ⟨[_, _], [], [], 128 + a % 64, 128 + b % 64, by omega, by omega, rfl, rfl⟩
  · rw [enc3 (by omega) (by omega) h2, enc4 (by omega) (by omega) (by omega)]
    exact ⟨[], _, _, _, _, by omega, by omega, rfl, rfl⟩
  · rw [enc4 (by omega) (by omega) (by omega), enc4 (by omega) (by omega) (by omega)]
    by_cases h5 : a / 262144 < b / 262144
    · exact ⟨[], _, _, 240 + a / 262144, 240 + b / 262144, by omega, by omega, rfl, rfl⟩
    · rw [show a / 262144 = b / 262144 by omega]
      by_cases h7 : a / 4096 % 64 < b / 4096 % 64
      · exact ⟨[_], _, _, 128 + a / 4096 % 64, 128 + b / 4096 % 64, by omega, by omega, rfl, rfl⟩
      · rw [show a / 4096 % 64 = b / 4096 % 64 by omega]
        by_cases h6 : a / 64 % 64 < b / 64 % 64
        · exact ⟨[_, _], _, _, 128 + a / 64 % 64, 128 + b / 64 % 64, by omega, by omega, rfl, rfl⟩
        · rw [show a / 64 % 64 = b / 64 % 64 by omega]
          exact ⟨[_, _, _], [], [], 128 + a % 64, 128 + b % 64, by omega, by omega, rfl, rfl⟩

theorem compare_encs : ∀ {a b : List Nat}, (∀ x ∈ a, isC x) → (∀ x ∈ b, isC x) → compareBytes (encs a) (encs b) = cmpL a b
  | [], [], _, _ => rfl
  | [], y :: b, _, _ => by
    rw [encs_cons]
    obtain ⟨t, e⟩ := enc_cut y
    rw [e]; rfl
  | x :: a, [], _, _ => by
    rw [encs_cons]
    obtain ⟨t, e⟩ := enc_cut x
    rw [e]; rfl
  | x :: a, y :: b, ha, hb => by
    have hx := ha x (by simp)
    have hy := hb y (by simp)
    rw [encs_cons, encs_cons]
    show _ = if x < y then -1 else if y < x then 1 else cmpL a b
    rcases Nat.lt_trichotomy x y with h | h | h
    · obtain ⟨p, s, t, u, v, h1, h2, e1, e2⟩ := enc_less hx hy h
      rw [if_pos h, e1, e2, List.append_assoc, List.append_assoc]
      exact (compare_at p _ _ h1 h2).1
    · subst h
      rw [if_neg (Nat.lt_irrefl _), if_neg (Nat.lt_irrefl _), compare_pre]
      exact compare_encs (fun z hz => ha z (by simp [hz])) (fun z hz => hb z (by simp [hz]))
    · obtain ⟨p, s, t, u, v, h1, h2, e1, e2⟩ := enc_less hy hx h
      rw [if_neg (by omega), if_pos h, e1, e2, List.append_assoc, List.append_assoc]
      exact (compare_at p _ _ h1 h2).2
theorem cmpL_flip : ∀ (a b : List Nat), cmpL b a = -cmpL a b
  | [], [] => rfl
  | [], _ :: _ => rfl
  | _ :: _, [] => rfl
  | x :: a, y :: b => by
    show (if y < x then -1 else if x < y then 1 else cmpL b a) = -(if x < y then -1 else if y < x then 1 else cmpL a b)
    rcases Nat.lt_trichotomy x y with h | h | h
    · rw [if_neg (by omega), if_pos h, if_pos h]; rfl
    · subst h
      simp only [Nat.lt_irrefl, if_false]
      exact cmpL_flip a b
    · rw [if_pos h, if_neg (by omega), if_pos h]
theorem cmpL_zero : ∀ {a b : List Nat}, cmpL a b = 0 ↔ a = b
  | [], [] => by simp [cmpL]
  | [], _ :: _ => by simp [cmpL]
  | _ :: _, [] => by simp [cmpL]
  | x :: a, y :: b => by
    show (if x < y then -1 else if y < x then 1 else cmpL a b) = 0 ↔ _
    rcases Nat.lt_trichotomy x y with h | h | h
    · rw [if_pos h]; constructor
      · intro e; cases e
      · intro e; injection e with e1; omega
    · subst h
      simp only [Nat.lt_irrefl, if_false, List.cons.injEq, true_and]
      exact cmpL_zero
    · rw [if_neg (by omega), if_pos h]; constructor
      · intro e; cases e
      · intro e; injection e with e1; omega
theorem cmpL_range : ∀ (a b : List Nat), cmpL a b = -1 ∨ cmpL a b = 0 ∨ cmpL a b = 1
  | [], [] => by simp [cmpL]
  | [], _ :: _ => by simp [cmpL]
  | _ :: _, [] => by simp [cmpL]
  | x :: a, y :: b => by
    show (if x < y then -1 else if y < x then 1 else cmpL a b) = -1 ∨ _
    rcases Nat.lt_trichotomy x y with h | h | h
    · simp [cmpL, h]
    · subst h
      simpa [cmpL] using cmpL_range a b
    · simp [cmpL, h, show ¬ x < y by omega]
end Go.Proofs.YtccbofaefpbhlaaDoor.Utf

namespace Go.Proofs.YtccbofaefpbhlaaDoor.Utf
set_option linter.unusedVariables false
set_option maxRecDepth 20000
open Go.RowKit Go.Lib

theorem i64_and21 (n : Int) : bits .and .i64 n 2097151 = n % 2097152 := by
  have h127 : (BitVec.ofInt 64 2097151).toNat = 2 ^ 21 - 1 := by decide
  have key : (BitVec.ofInt 64 n &&& BitVec.ofInt 64 2097151).toNat = (n % ((2 ^ 64 : Nat) : Int)).toNat % 2 ^ 21 := by
    rw [BitVec.toNat_and, BitVec.toNat_ofInt, h127, Nat.and_two_pow_sub_one_eq_mod]
  show IntKind.i64.wrap ((BitVec.ofInt 64 n &&& BitVec.ofInt 64 2097151).toNat : Nat) = n % 2097152
  rw [key, IntKind.wrap_i64]
  omega
theorem i64_and11 (n : Int) : bits .and .i64 n 2047 = n % 2048 := by
  have h127 : (BitVec.ofInt 64 2047).toNat = 2 ^ 11 - 1 := by decide
  have key : (BitVec.ofInt 64 n &&& BitVec.ofInt 64 2047).toNat = (n % ((2 ^ 64 : Nat) : Int)).toNat % 2 ^ 11 := by
    rw [BitVec.toNat_and, BitVec.toNat_ofInt, h127, Nat.and_two_pow_sub_one_eq_mod]
  show IntKind.i64.wrap ((BitVec.ofInt 64 n &&& BitVec.ofInt 64 2047).toNat : Nat) = n % 2048
  rw [key, IntKind.wrap_i64]
  omega

theorem char_any (x : Int) (w : World) : Calls Tryd.prog 54 #[.int .i64 x] w fun e w' => ∃ d : Nat, isC d ∧ e = .returned (.int .i32 (d : Nat)) ∧ Below w.heap.size w w' := by
  obtain ⟨c, hc⟩ : ∃ c, bits .and .i64 x 2097151 = c := ⟨_, rfl⟩
  have hcr : 0 ≤ c ∧ c < 2097152 := by
    rw [← hc, i64_and21]
    omega
  obtain ⟨hc0, hc1⟩ := hcr
  have HI := Lib.hid fun W => refIs_any c W
  rcases hi : isI c with _ | _
  · rw [hi] at HI
    obtain ⟨d, hd⟩ : ∃ d : Int, bits .and .i64 c 2047 = d := ⟨_, rfl⟩
    have hdr : 0 ≤ d ∧ d < 2048 := by
      rw [← hd, i64_and11]
      omega
    obtain ⟨hd0, hd1⟩ := hdr
    go_enter Tryd.func54, Tryd.ntmps54
    go_wp2_with fail
    refine (HI.out _).mono ?_
    rintro e w2 ⟨rfl, y2⟩
    go_wp2
    go_ret
    obtain ⟨q, rfl⟩ : ∃ q : Nat, d = q := ⟨d.toNat, by omega⟩
    exact ⟨q, .inl (by omega), rfl, y2⟩
  · rw [hi] at HI
    have hv := ((isI_iff c).1 hi).2
    go_enter Tryd.func54, Tryd.ntmps54
    go_wp2_with fail
    refine (HI.out _).mono ?_
    rintro e w2 ⟨rfl, y2⟩
    go_wp2
    go_ret
    obtain ⟨q, rfl⟩ : ∃ q : Nat, c = q := ⟨c.toNat, by omega⟩
    exact ⟨q, by simpa using hv, rfl, y2⟩

/-- It answers some characters, in a row of its own. -/
def RetCh (n : Nat) (w : World) (e : Ending) (w' : World) : Prop := ∃ (cs : List Nat) (u : Value), e = .returned u ∧ cs.length ≤ n ∧ (∀ x ∈ cs, isC x) ∧ w'.ownsRow w.heap.size 21 1 u cs.length (cellsOf .i32 cs) ∧ Below w.heap.size w w'

set_option maxHeartbeats 2000000 in
theorem chars_any (A : Option Addr) (len cap : Nat) (l : List Int) (w : World) (hr : RowI .i64 w A l) (hl : l.length = len) : Calls Tryd.prog 48 #[.slice A len cap, .int .i64 30] w (RetCh 30 w) := by
  obtain ⟨i0, hi, hz0, hz1, hz2⟩ := info_parts rune_info
  go_enter Tryd.func48, Tryd.ntmps48
  go_wp2_with fail
  go_loopw [5, 6] (fun u5 i6 wx => ∃ (i : Nat) (cs : List Nat), i ≤ 30 ∧ i6 = .int .i64 i ∧ cs.length = i ∧ Hid (∀ x ∈ cs, isC x) ∧ wx.ownsRow w.heap.size 21 1 u5 i (cellsOf .i32 cs) ∧ Below w.heap.size w wx) (fun _ i6 _ => 30 - (RowKit.intOf i6).toNat)
  case atStart => exact ⟨0, [], by omega, rfl, rfl, by simp [Hid], own_nil _ _ _, Below.refl _ _⟩
  case round =>
    obtain ⟨i, cs, hi30, rfl, hcs, hall, hrow, hb1⟩ := hrel
    have hb1s := hb1.size
    obtain ⟨ao, cp, rfl⟩ := own_form hrow
    by_cases hin : i < len ∧ i < 30
    · obtain ⟨hi1, hi2⟩ := hin
      obtain ⟨ad, rfl, _, hc1⟩ := (hr.below hb1).at_ (i := i) (by omega)
      generalize l.getD i 0 = x at *
      have hi3 : (i : Int) < 30 := by omega
      go_wp2_with fail
      refine (char_any x _).mono ?_
      rintro e w2 ⟨d, hd, rfl, y2⟩
      have hrow2 := own_kept hrow y2
      have hb2 := below_step hb1 y2
      have hb2s := hb2.size
      have hdl := hd.le
      replace hd := Lib.hid hd
      go_wp2_with (at_builtin; refine wpList_append_own _ rfl (.tmp 18) (.tmp 24) 53 rfl w.heap.size 21 i0 (.int .i32 0) 1 4 Tryd.underlying53 hi hz0 hz1 hz2 rfl (by decide) _ i _ rfl (hrow2.alloc _) ⟨w2.heap.size, 0, none⟩ 1 1 [.int .i32 (d : Nat)] rfl rfl (cell_one_new _ _ _) (by simp [Value.oneCell']) (by unfold maxLen; omega) (by omega) (by simp; omega) ?_; intro v' w3 hown3 hgrow _; have hb3 : Below w.heap.size w w3 := (hb2.alloc hb2s _).grown hgrow (by simp; omega) (fun k hk => (hrow2.lt k hk).1); clear hgrow)
      go_roundw
      case rel => exact ⟨i + 1, cs ++ [d], by omega, by go_num, by simp [hcs], fun z hz => by
        rcases List.mem_append.1 hz with h5 | h5
        · exact hall.out z h5
        · rw [List.mem_singleton.1 h5]; exact hd.out, by rw [cellsOf_append]; simpa [cellsOf] using hown3, hb3⟩
      case measure => simp [RowKit.intOf]; omega
    · by_cases hi1 : i < len
      · obtain rfl : i = 30 := by omega
        go_wp2
        go_ret
        exact ⟨cs, _, rfl, by omega, hall.out, by rw [hcs]; exact hrow, hb1⟩
      · have hi1' : (len : Int) ≤ i := by omega
        go_wp2
        go_ret
        exact ⟨cs, _, rfl, by omega, hall.out, by rw [hcs]; exact hrow, hb1⟩

theorem below_dn (w : World) (n : Nat) : Below w.heap.size w (w.drewN n) := ⟨rfl, rfl, rfl, Nat.le_refl _, fun _ _ => rfl⟩
theorem drop_get {l : List Nat} {i : Nat} (h : i < l.length) : l.drop i = l.getD i 0 :: l.drop (i + 1) := by
  rw [List.drop_eq_getElem_cons h]
  simp [List.getD, h]

theorem compare_any (s t : ByteArray) (r : Int) (w : World) (hr : compareBytes s.data.toList t.data.toList = r) : Calls Tryd.prog 52 #[.string s, .string t] w (RetV (.int .i64 r) w) := by
  have H := Lib.hid (Tryd.strings_Compare s t w)
  rw [hr] at H
  go_enter Tryd.func52, Tryd.ntmps52
  go_wp2_with fail
  refine H.out.mono ?_
  rintro e w1 ⟨rfl, rfl⟩
  go_wp2
  go_ret
  exact ⟨rfl, Below.refl _ _⟩

theorem decoded {a b : List Nat} (ha : ∀ x ∈ a, isC x) (hb : ∀ x ∈ b, isC x) (h : encs a = encs b) : a = b := by
  have h1 := splits_encs ha
  rw [h] at h1
  exact (h1.inj (splits_encs hb)).1

end Go.Proofs.YtccbofaefpbhlaaDoor.Utf
