/-
  field.Hexes: its contract.
-/
import Derived.Test.YtanpncjnojjmkaaDoorFJ
import Derived.Test.YtanpncjnojjmkaaDoorFH
import Derived.Deep.RegionHeld3
namespace Go.Proofs.YtanpncjnojjmkaaDoor
set_option linter.unusedVariables false
set_option maxRecDepth 20000
open Go.RowKit

/-- The numbers that words are, where each is one. -/
def allHex : List (List UInt8) → Option (List Nat)
  | [] => some []
  | x :: r => match hexRead x with
    | none => none
    | some n => (allHex r).map (n :: ·)
theorem allHex_some : ∀ {P : List (List UInt8)} {L : List Nat}, allHex P = some L → L.length = P.length ∧ ∀ i, i < L.length → hexRead (P.getD i []) = some (L.getD i 0)
  | [], L, h => by injection h with h; subst h; exact ⟨rfl, fun i hi => absurd hi (by simp)⟩
  | x :: r, L, h => by
    rw [allHex] at h
    split at h
    · cases h
    · rename_i n hn
      cases e : allHex r with
      | none => rw [e] at h; cases h
      | some M =>
        rw [e] at h
        injection h with h
        subst h
        obtain ⟨h1, h2⟩ := allHex_some e
        refine ⟨by simp [h1], fun i hi => ?_⟩
        cases i with
        | zero => exact hn
        | succ j => exact h2 j (by simpa using hi)
theorem hexRead_le {bs : List UInt8} {n : Nat} (h : hexRead bs = some n) : n ≤ 1114111 := ((hexRead_iff bs n).1 h).2.2.2.1
theorem spl_le (c : UInt8) : ∀ (bs acc : List UInt8), ∀ x ∈ spl c bs acc, x.length ≤ acc.length + bs.length
  | [], acc, x, h => by
    rw [spl, List.mem_singleton] at h
    subst h
    simp
  | b :: r, acc, x, h => by
    rw [spl] at h
    split at h
    · rcases List.mem_cons.1 h with h | h
      · subst h; omega
      · have := spl_le c r [] x h; simp at this ⊢; omega
    · have := spl_le c r _ x h; simp at this ⊢; omega
theorem spl_get_le (c : UInt8) (bs : List UInt8) (i : Nat) : ((spl c bs []).getD i []).length ≤ bs.length := by
  by_cases h : i < (spl c bs []).length
  · have := spl_le c bs [] ((spl c bs []).getD i []) (by simp [List.getD, h])
    simpa using this
  · simp [List.getD, h]

/-- The cells of runes. -/
def runC (l : List Nat) : List Value := l.map fun (n : Nat) => Value.int .i32 (n : Int)
theorem runC_get (l : List Nat) {i : Nat} (h : i < l.length) : (runC l)[i]? = some (.int .i32 ((l.getD i 0 : Nat) : Int)) := by simp [runC, List.getD, h]
/-- A slice of runes. -/
def IsH (w : World) (v : Value) (l : List Nat) : Prop := ∃ A c, v = .slice A l.length c ∧ (l ≠ [] → ∃ g, A = some ⟨g, 0, none⟩ ∧ g < w.heap.size ∧ ∀ i, i < l.length → w.cell? ⟨g, i, none⟩ = some (.int .i32 ((l.getD i 0 : Nat) : Int)))
theorem IsH.below {w w' : World} {v : Value} {l : List Nat} (h : IsH w v l) (hb : Below w.heap.size w w') : IsH w' v l := by
  obtain ⟨A, c, e, h1⟩ := h
  refine ⟨A, c, e, fun hn => ?_⟩
  obtain ⟨g, e1, h2, h3⟩ := h1 hn
  exact ⟨g, e1, Nat.lt_of_lt_of_le h2 hb.size, fun i hi => (hb.cell (p := ⟨g, i, none⟩) h2).trans (h3 i hi)⟩
theorem IsH.shape {w : World} {v : Value} {l : List Nat} (h : IsH w v l) : ∃ A c, v = .slice A l.length c := by
  obtain ⟨A, c, e, _⟩ := h
  exact ⟨A, c, e⟩
theorem IsH.at_ {w : World} {A : Option Addr} {n c : Nat} {l : List Nat} (h : IsH w (.slice A n c) l) {i : Nat} (hi : i < l.length) : ∃ g, A = some ⟨g, 0, none⟩ ∧ g < w.heap.size ∧ w.cell? ⟨g, i, none⟩ = some (.int .i32 ((l.getD i 0 : Nat) : Int)) := by
  obtain ⟨A', c', e, h1⟩ := h
  injection e with e1 e2 e3
  subst e1
  obtain ⟨g, h2, h3, h4⟩ := h1 (fun e => by rw [e] at hi; exact absurd hi (by simp))
  exact ⟨g, h2, h3, h4 i hi⟩
theorem own_isH {w : World} {B : Nat} {v : Value} {l : List Nat} (h : w.ownsRow B 21 1 v l.length (runC l)) : IsH w v l := by
  rcases h.2 with ⟨rfl, hn⟩ | ⟨g, cap, cur, rfl, hb, hh, hnc, hm, hs, hx⟩
  · have : l = [] := List.eq_nil_of_length_eq_zero hn
    subst this
    exact ⟨none, 0, rfl, fun h => absurd rfl h⟩
  · refine ⟨some ⟨g, 0, none⟩, cap, rfl, fun hne => ⟨g, rfl, Blk.lt hh, fun i hi => ?_⟩⟩
    rw [Blk.cell hh i]
    have h1 := runC_get l hi
    rw [← hx, List.getElem?_take, if_pos (by omega)] at h1
    simpa using h1
theorem rune_info : (Tryd.prog.info? 21).map (fun i => (i.zero, i.size, i.bytes)) = some (some (.int .i32 0), 1, 4) := by kernel_rfl
/-- What Hexes answers. -/
def RetHs (o : Option (List Nat)) (w : World) (e : Ending) (w' : World) : Prop := ∃ v, e = .returned (.tuple #[v, .bool o.isSome]) ∧ IsH w' v (o.getD []) ∧ Below w.heap.size w w'

set_option maxHeartbeats 4000000 in
theorem hexes_any (s : ByteArray) (o : Option (List Nat)) (w : World) (he : Env w) (hs : s.size ≤ 1000000) (ho : allHex (spl 32 s.data.toList []) = o) : Calls Tryd.prog 17 #[.string s] w (RetHs o w) := by
  obtain ⟨i0, hi, hz0, hz1, hz2⟩ := info_parts rune_info
  have H0 : Hid (Calls Tryd.prog 20 #[.string s, .string ⟨#[32]⟩] w (RetT (spl 32 s.data.toList []) w)) := Lib.hid (libSplit_any s 32 w he hs)
  have hlen : s.data.toList.length = s.size := Array.length_toList
  have hcnt : (spl 32 s.data.toList []).length ≤ 1000001 := by
    rw [← split_count]
    show Lib.count s.data.toList [32] + 1 ≤ _
    rw [Lib.count_one]
    have := List.count_le_length (a := (32 : UInt8)) (l := s.data.toList)
    omega
  have HWL := Lib.hid fun i => Nat.le_trans (spl_get_le 32 s.data.toList i) (show s.data.toList.length ≤ 1000000 by omega)
  have HO := Lib.hid ho
  clear ho hlen
  generalize spl 32 s.data.toList [] = P at *
  go_enter Tryd.func17, Tryd.ntmps17
  go_wp2_with fail
  refine H0.out.mono ?_
  rintro e w3 ⟨v, rfl, hv, y3⟩
  obtain ⟨A, c, rfl⟩ := hv.shape
  obtain ⟨n, hn⟩ : ∃ n, P.length = n := ⟨_, rfl⟩
  have HV := Lib.hid fun i hi => hv.at_ (i := i) hi
  rw [hn] at hcnt HV ⊢
  clear hv H0
  go_wp2
  go_loopw [4, 12] (fun u t wr => ∃ (i : Nat) (L : List Nat), t = .int .i64 i ∧ wr.ownsRow w3.heap.size 21 1 u L.length (runC L) ∧ L.length = i ∧ i ≤ n ∧ allHex P = (allHex (P.drop i)).map (L ++ ·) ∧ Below w3.heap.size w3 wr) (fun _ t _ => n - (intOf t).toNat)
  case atStart => exact ⟨0, [], rfl, ⟨rfl, .inl ⟨rfl, rfl⟩⟩, rfl, by omega, by simp, Below.refl _ _⟩
  case round =>
    obtain ⟨i, L, rfl, hrow, hL, hil, hall, hb⟩ := hrel
    obtain ⟨ao, cp, rfl⟩ := own_form hrow
    have HH := Lib.hid hall
    have HL := Lib.hid hL
    have hLn : L.length ≤ n := by omega
    clear hall hL
    by_cases hlt : i < n
    · obtain ⟨g, rfl, hg, hc⟩ := HV.out i hlt
      have hc1 := (hb.cell (p := ⟨g, i, none⟩) hg).trans hc
      have hdr : P.drop i = P.getD i [] :: P.drop (i + 1) := drop_get [] (by omega)
      have hxl := HWL.out i
      generalize P.getD i [] = x at *
      cases hx : hexRead x with
      | none =>
        have e : o = none := by rw [← HO.out, HH.out, hdr, allHex, hx]; rfl
        subst e
        have HX : Hid (∀ W, Calls Tryd.prog 13 #[.string ⟨x.toArray⟩] W (RetV (.tuple #[.int .i32 0, .bool false]) W)) := Lib.hid fun W => hex_any ⟨x.toArray⟩ none W hxl (by simpa using hx)
        clear HH HO HV hc hdr hx
        go_wp2_with fail
        refine (HX.out _).mono ?_
        rintro e w4 ⟨rfl, y4⟩
        go_wp2
        go_ret2
        exact ⟨.slice none 0 0, rfl, ⟨none, 0, rfl, fun h => absurd rfl h⟩, below_step y3 (below_step hb y4)⟩
      | some m =>
        have HX : Hid (∀ W, Calls Tryd.prog 13 #[.string ⟨x.toArray⟩] W (RetV (.tuple #[.int .i32 (m : Int), .bool true]) W)) := Lib.hid fun W => hex_any ⟨x.toArray⟩ (some m) W hxl (by simpa using hx)
        have hst : allHex P = (allHex (P.drop (i + 1))).map ((L ++ [m]) ++ ·) := by
          rw [HH.out, hdr, allHex, hx]
          cases allHex (P.drop (i + 1)) <;> simp
        have HST := Lib.hid hst
        clear HH HV hc hdr hx hst
        go_wp2_with fail
        refine (HX.out _).mono ?_
        rintro e w4 ⟨rfl, y4⟩
        have hrow := own_kept hrow y4
        have hb := below_step hb y4
        have hbsz := hb.size
        clear hc1
        go_wp2_with (at_builtin; refine wpList_append_own _ rfl (.tmp 23) (.tmp 25) 36 rfl w3.heap.size 21 i0 (.int .i32 0) 1 4 Tryd.underlying36 hi hz0 hz1 hz2 rfl (by decide) _ L.length _ rfl (hrow.alloc _) ⟨w4.heap.size, 0, none⟩ 1 1 [.int .i32 (m : Int)] rfl rfl (cell_one_new _ _ _) (by simp [Value.oneCell']) (by unfold maxLen; omega) (by omega) (by simp; omega) ?_; intro v' w2 hown2 hgrow _; have hb2 : Below w3.heap.size w3 w2 := (hb.alloc hbsz _).grown hgrow (by simp; omega) (fun k hk => (hrow.lt k hk).1); clear hgrow)
        go_roundw
        case rel => exact ⟨i + 1, L ++ [m], by go_num, by simpa [runC] using hown2, by simp [HL.out], by omega, HST.out, hb2⟩
        case measure => simp [intOf]; omega
    · obtain rfl : i = n := by omega
      have e : o = some L := by rw [← HO.out, HH.out, List.drop_of_length_le (by omega), allHex]; simp
      subst e
      clear HH HO HV
      go_wp2
      go_ret2
      exact ⟨_, rfl, own_isH hrow, below_step y3 hb⟩
end Go.Proofs.YtanpncjnojjmkaaDoor
