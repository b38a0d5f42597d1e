/-
  field.Hex: its contract.
-/
import Derived.Test.YtanpncjnojjmkaaDoorFB
import Derived.Test.YtanpncjnojjmkaaDoorShelf
import Derived.Deep.DeepCutAuto
import Derived.Deep.CutRange
namespace Go.Proofs.YtanpncjnojjmkaaDoor
set_option linter.unusedVariables false
set_option maxRecDepth 20000
open Go.RowKit

theorem byte_at (s : ByteArray) (i : Nat) (h : i < s.size) : (s.data.toList.getD i 0).toNat = s[i].toNat := by
  have hl : i < s.data.toList.length := by rw [Array.length_toList]; exact h
  have : s.data.toList.getD i 0 = s.data.toList[i] := by simp only [List.getD, List.getElem?_eq_getElem hl, Option.getD_some]
  rw [this]
  rfl
theorem drop_get {α : Type} {l : List α} {i : Nat} (z : α) (h : i < l.length) : l.drop i = l.getD i z :: l.drop (i + 1) := by
  rw [List.drop_eq_getElem_cons h]
  simp [List.getD, h]
/-- What Hex answers. -/
def hexV (o : Option Nat) : Value := .tuple #[.int .i32 ((o.getD 0 : Nat) : Int), .bool o.isSome]
/-- The digit as an answer. -/
def dvI (b : Nat) : Int := numI (dv b)
theorem index_tab (b : Nat) (hb : b < 256) : Lib.indexByte [48, 49, 50, 51, 52, 53, 54, 55, 56, 57, 65, 66, 67, 68, 69, 70] (b : Int).toNat.toUInt8 = dvI b :=
  (show ∀ b : Nat, b < 256 → Lib.indexByte [48, 49, 50, 51, 52, 53, 54, 55, 56, 57, 65, 66, 67, 68, 69, 70] (b : Int).toNat.toUInt8 = dvI b by decide +kernel) b hb
theorem indexTab_any (b : Nat) (hb : b < 256) (w : World) : Calls Tryd.prog 23 #[.string ⟨#[48, 49, 50, 51, 52, 53, 54, 55, 56, 57, 65, 66, 67, 68, 69, 70]⟩, .int .u8 (b : Nat)] w (RetV (.int .i64 (dvI b)) w) := by
  refine (Tryd.strings_IndexByte _ (b : Int) w).mono ?_
  rintro e w1 ⟨rfl, rfl⟩
  exact ⟨by rw [← index_tab b hb], Below.refl _ _⟩
theorem or_digit (m d : Nat) (hm : m < 1048576) (hd : d < 16) : bits .or .i32 ((m : Int) * 16) (d : Int) = ((16 * m + d : Nat) : Int) := by
  have e1 : (BitVec.ofInt 32 ((m : Int) * 16)).toNat = 16 * m := by rw [BitVec.toNat_ofInt]; omega
  have e2 : (BitVec.ofInt 32 (d : Int)).toNat = d := by rw [BitVec.toNat_ofInt]; omega
  have key : (BitVec.ofInt 32 ((m : Int) * 16) ||| BitVec.ofInt 32 (d : Int)).toNat = 16 * m + d := by
    rw [BitVec.toNat_or, e1, e2]
    exact (Nat.two_pow_add_eq_or_of_lt (i := 4) hd m).symm
  show IntKind.i32.wrap ((BitVec.ofInt 32 ((m : Int) * 16) ||| BitVec.ofInt 32 (d : Int)).toNat : Nat) = _
  rw [key, IntKind.wrap_i32]
  omega
theorem hexRead_short {bs : List UInt8} (h : bs.length < 4 ∨ 6 < bs.length) : hexRead bs = none := by unfold hexRead; rw [if_neg (by omega)]
theorem hexRead_head {bs : List UInt8} (h : 4 < bs.length) (h0 : (bs.getD 0 0).toNat = 48) : hexRead bs = none := by
  unfold hexRead
  rw [if_neg]
  rintro ⟨_, _, h3⟩
  exact h3 h (UInt8.toNat_inj.1 h0)
theorem hexRead_else {bs : List UInt8} (h4 : 4 ≤ bs.length) (h6 : bs.length ≤ 6) (h0 : 4 < bs.length → (bs.getD 0 0).toNat ≠ 48) : hexRead bs = (hv bs 0).bind fun n => if n ≤ 1114111 then some n else none := by
  unfold hexRead
  rw [if_pos]
  exact ⟨h4, h6, fun h e => h0 h (by rw [e]; rfl)⟩

set_option maxHeartbeats 4000000 in
theorem hex_any (s : ByteArray) (o : Option Nat) (w : World) (hs : s.size ≤ 1000000) (ho : hexRead s.data.toList = o) : Calls Tryd.prog 13 #[.string s] w (RetV (hexV o) w) := by
  obtain ⟨bs, hbs⟩ : ∃ bs, Hid (s.data.toList = bs) := ⟨_, rfl⟩
  rw [hbs.out] at ho
  have hlen : bs.length = s.size := by rw [← hbs.out]; exact Array.length_toList
  by_cases h4 : s.size < 4 ∨ 6 < s.size
  · rw [hexRead_short (by omega)] at ho
    subst ho
    rw [show hexV none = .tuple #[.int .i32 0, .bool false] from rfl]
    rcases h4 with h4 | h4
    · go_enter Tryd.func13, Tryd.ntmps13
      go_wp2
      go_ret2
      exact ⟨rfl, Below.refl _ _⟩
    · go_enter Tryd.func13, Tryd.ntmps13
      go_wp2
      go_ret2
      exact ⟨rfl, Below.refl _ _⟩
  · have hpos : 0 < s.size := by omega
    obtain ⟨b0, hb0⟩ : ∃ b0, s[0].toNat = b0 := ⟨_, rfl⟩
    have hb0' : (bs.getD 0 0).toNat = b0 := by rw [← hbs.out, byte_at s 0 hpos, hb0]
    have hr : ¬ s.size < 4 ∧ ¬ 6 < s.size := by omega
    obtain ⟨hr1, hr2⟩ := hr
    clear h4
    by_cases hz : 4 < s.size ∧ b0 = 48
    · obtain ⟨hz1, hz2⟩ := hz
      rw [hexRead_head (by omega) (by omega)] at ho
      subst ho
      rw [show hexV none = .tuple #[.int .i32 0, .bool false] from rfl]
      go_enter Tryd.func13, Tryd.ntmps13
      go_wp2
      go_ret2
      exact ⟨rfl, Below.refl _ _⟩
    · rw [hexRead_else (by omega) (by omega) (by omega)] at ho
      have HO := Lib.hid ho
      have hb48 : s.size ≤ 4 ∨ b0 ≠ 48 := by omega
      clear ho hz
      go_enter Tryd.func13, Tryd.ntmps13
      go_upto_region 1 with fail
      go_cut [24] (fun c wx => c = .bool false ∧ wx = w)
      case first =>
        rcases hb48 with h | h
        · go_wp2
          go_meet
          exact ⟨congrArg Value.bool (by simp; omega), rfl⟩
        · have hne : ((b0 : Int) == 48) = false := by rw [beq_eq_false_iff_ne]; omega
          by_cases h4 : s.size ≤ 4
          · go_wp2
            go_meet
            exact ⟨congrArg Value.bool (by simp; omega), rfl⟩
          · go_wp2
            go_meet
            exact ⟨congrArg Value.bool (by simp; omega), rfl⟩
      case rest =>
        obtain ⟨rfl, hcw⟩ := hcut
        obtain rfl : w = wc := hcw.symm
        clear hb48 hcw
        have hbd : ∀ i, i < s.size → ∃ b, b < 256 ∧ (bs.getD i 0).toNat = b ∧ ∀ h : i < s.size, s[i].toNat = b := fun i hi => ⟨_, UInt8.toNat_lt _, rfl, fun h => by rw [← hbs.out, byte_at s i h]⟩
        have HBD := Lib.hid hbd
        clear hbd hb0 hb0' hpos
        go_wp2
        go_loopw [4, 27] (fun c t wr => ∃ i m : Nat, t = .int .i64 i ∧ c = .int .i32 m ∧ i ≤ s.size ∧ m < 16 ^ i ∧ hv bs 0 = hv (bs.drop i) m ∧ Below w.heap.size w wr) (fun _ t _ => s.size - (intOf t).toNat)
        case atStart => exact ⟨0, 0, rfl, rfl, by omega, by simp, by simp, Below.refl _ _⟩
        case round =>
          obtain ⟨i, m, rfl, rfl, hi, hm, hhv, hb⟩ := hrel
          have HH := Lib.hid hhv
          clear hhv
          by_cases hlt : i < s.size
          · have hm5 : m < 1048576 := Nat.lt_of_lt_of_le hm (Nat.pow_le_pow_right (n := 16) (by decide) (show i ≤ 5 by omega))
            obtain ⟨b, hb256, hb1, hb2⟩ := HBD.out i hlt
            have hb2 := hb2 hlt
            have HI := Lib.hid (indexTab_any b hb256 wr)
            have hstep : hv (bs.drop i) m = match dv b with | none => none | some d => hv (bs.drop (i + 1)) (16 * m + d) := by rw [drop_get 0 (by omega), hv, hb1]; cases dv b <;> rfl
            cases hd : dv b with
            | none =>
              have hdv : dvI b = -1 := by rw [dvI, hd]; rfl
              rw [hdv] at HI
              rw [hd] at hstep
              rw [HH.out, hstep] at HO
              have e := HO.out
              simp only [Option.bind_none] at e
              subst e
              rw [show hexV none = .tuple #[.int .i32 0, .bool false] from rfl]
              clear HO HH hstep hd HBD
              go_wp2_with fail
              refine HI.out.mono ?_
              rintro e w1 ⟨rfl, y1⟩
              go_wp2
              go_ret2
              exact ⟨rfl, below_step hb y1⟩
            | some d =>
              have hdv : dvI b = (d : Int) := by rw [dvI, hd]; rfl
              have hd16 := dv_lt hd
              rw [hdv] at HI
              rw [hd] at hstep
              have HS := Lib.hid hstep
              have hor := or_digit m d hm5 hd16
              clear hstep hd HBD
              go_wp2_with fail
              refine HI.out.mono ?_
              rintro e w1 ⟨rfl, y1⟩
              go_wp2
              go_roundw
              case rel =>
                refine ⟨i + 1, 16 * m + d, by go_num, ?_, by omega, by rw [Nat.pow_succ]; omega, HH.out.trans HS.out, below_step hb y1⟩
                first | rfl | simp
              case measure => simp [intOf]; omega
          · obtain rfl : i = s.size := by omega
            rw [HH.out, List.drop_of_length_le (by omega), hv] at HO
            have hO := HO.out
            simp only [Option.bind_some] at hO
            have hm6 : m < 16777216 := Nat.lt_of_lt_of_le hm (Nat.pow_le_pow_right (n := 16) (by decide) (show s.size ≤ 6 by omega))
            clear HO HH HBD hm
            by_cases hmx : m ≤ 1114111
            · rw [if_pos hmx] at hO
              subst hO
              rw [show hexV (some m) = .tuple #[.int .i32 (m : Int), .bool true] from rfl]
              go_wp2
              go_ret2
              exact ⟨rfl, hb⟩
            · rw [if_neg hmx] at hO
              subst hO
              rw [show hexV none = .tuple #[.int .i32 0, .bool false] from rfl]
              go_wp2
              go_ret2
              exact ⟨rfl, hb⟩
end Go.Proofs.YtanpncjnojjmkaaDoor
