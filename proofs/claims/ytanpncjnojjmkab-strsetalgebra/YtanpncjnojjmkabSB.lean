/-
  Few; the document's Has; sets of texts; List, Len, At.
-/
import Derived.Test.YtanpncjnojjmkabSA
namespace Go.Proofs.Ytanpncjnojjmkab
set_option linter.unusedVariables false
set_option maxRecDepth 20000
open Go.RowKit

/-- At most 40 texts of at most 30 bytes. -/
def few (l : List Tx) : List Tx := (l.take 40).map (·.take 30)
theorem few_len (l : List Tx) : (few l).length ≤ 40 := by simp [few]; omega
theorem few_get (l : List Tx) (x : Tx) (h : x ∈ few l) : x.length ≤ 30 := by
  simp only [few, List.mem_map] at h
  obtain ⟨y, _, rfl⟩ := h
  simp; omega
theorem few_step (l : List Tx) {i : Nat} (h : i < l.length) : (l.take (i + 1)).map (·.take 30) = (l.take i).map (·.take 30) ++ [(l.getD i []).take 30] := by
  rw [List.take_succ_eq_append_getElem h, List.map_append]
  simp [List.getD, h]

set_option maxHeartbeats 2000000 in
theorem few_any (A : Option Addr) (c : Nat) (l : List Tx) (w : World) (hc : Came w A l) (hn : l.length ≤ 9223372036854775807) (hx : ∀ x ∈ l, x.length ≤ 9223372036854775807) : Calls Try.prog 7 #[.slice A l.length c] w (RetT (few l) w) := by
  obtain ⟨i0, hi, hz0, hz1, hz2⟩ := info_parts str_info
  obtain ⟨n, hln⟩ : ∃ n, Hid (l.length = n) := ⟨_, rfl⟩
  rw [hln.out] at hn ⊢
  go_enter Try.func7, Try.ntmps7
  go_wp2
  go_loopw [3, 4] (fun u t wr => ∃ (i : Nat), t = .int .i64 i ∧ i ≤ n ∧ i ≤ 40 ∧ wr.ownsRow w.heap.size 9 1 u i (strC ((l.take i).map (·.take 30))) ∧ Below w.heap.size w wr) (fun _ t _ => 40 - (intOf t).toNat)
  case atStart => exact ⟨0, rfl, by omega, by omega, World.ownsRow_nil w _ 9 1, Below.refl _ _⟩
  case round =>
    obtain ⟨i, rfl, hin, hi4, hrow, hb⟩ := hrel
    have hbsz := hb.size
    obtain ⟨ao, cp, rfl⟩ := own_form hrow
    by_cases hlt : i < n ∧ i < 40
    · obtain ⟨h1, h2⟩ := hlt
      have hil : i < l.length := by rw [hln.out]; exact h1
      obtain ⟨ad, rfl, hab, hcell⟩ := (hc.below hb) i hil
      have hstep := Lib.hid (few_step l hil)
      have hcut := Lib.hid fun W => cut_any (l.getD i []) W (by
        have hm : l.getD i [] ∈ l := by
          simp only [List.getD_eq_getElem?_getD, List.getElem?_eq_getElem hil, Option.getD_some]
          exact List.getElem_mem hil
        exact hx _ hm)
      obtain ⟨x, hxx⟩ : ∃ x, Hid (l.getD i [] = x) := ⟨_, rfl⟩
      rw [hxx.out] at hcell hcut hstep
      go_wp2_with (first
        | (go_at_call 17; refine (hcut.out _).mono ?_; rintro e w' ⟨rfl, rfl⟩)
        | (at_builtin; refine wpList_append_own _ rfl (.tmp 15) (.tmp 21) 22 rfl w.heap.size 9 i0 (.string ⟨#[]⟩) 1 16 Try.underlying22 hi hz0 hz1 hz2 rfl (by decide) _ i _ rfl (hrow.alloc _) ⟨wr.heap.size, 0, none⟩ 1 1 [.string ⟨(x.take 30).toArray⟩] rfl rfl (cell_one_new _ _ _) (by simp [Value.oneCell']) (by unfold maxLen; omega) (by omega) (by simp; omega) ?_; intro v' w2 hown2 hgrow _; have hb2 : Below w.heap.size w w2 := (hb.alloc hbsz _).grown hgrow (by simp; omega) (fun k hk => (hrow.lt k hk).1); clear hgrow))
      go_roundw
      case rel => exact ⟨i + 1, by go_num, by omega, by omega, by rw [hstep.out, strC_append]; simpa [strC] using hown2, hb2⟩
      case measure => simp [intOf]; omega
    · have hfin : (l.take i).map (·.take 30) = few l := by
        unfold few
        congr 1
        have hl := hln.out
        rcases Nat.lt_or_ge i n with h3 | h3
        · rw [show i = 40 by omega]
        · rw [List.take_of_length_le (by omega), List.take_of_length_le (by omega)]
      have hlen : (few l).length = i := by rw [← hfin, List.length_map, List.length_take, hln.out]; omega
      rw [hfin] at hrow
      have HL := Lib.hid hlen
      clear hfin hlen
      by_cases h1 : i < n
      · have h2 : ¬ i < 40 := fun h => hlt ⟨h1, h⟩
        go_wp2
        go_ret
        exact ⟨_, rfl, own_isT (B := w.heap.size) (by rw [HL.out]; exact hrow), hb⟩
      · go_wp2
        go_ret
        exact ⟨_, rfl, own_isT (B := w.heap.size) (by rw [HL.out]; exact hrow), hb⟩

/-- The document's Has. -/
theorem hasRef_any (v : Value) (l : List Tx) (x : Tx) (w : World) (h : IsT w v l) (hl : l.length ≤ 1000000) : Calls Try.prog 22 #[v, .string ⟨x.toArray⟩] w fun e w' => e = .returned (.bool (isIn l x)) ∧ w = w' := by
  obtain ⟨A, c, rfl, hlc, hcell⟩ := h.form
  obtain ⟨n, hln⟩ : ∃ n, Hid (l.length = n) := ⟨_, rfl⟩
  rw [hln.out] at hl ⊢
  go_enter Try.func22, Try.ntmps22
  go_wp2
  go_loop [6, 9] (fun _ t => ∃ i : Nat, t = .int .i64 i ∧ i ≤ n ∧ ∀ y ∈ l.take i, y ≠ x) (fun _ t => n - (intOf t).toNat)
  case atStart => exact ⟨0, rfl, by omega, by simp⟩
  case round =>
    obtain ⟨i, rfl, hin, hno⟩ := hrel
    have HN := Lib.hid hno
    clear hno
    by_cases hlt : i < n
    · have hil : i < l.length := by rw [hln.out]; exact hlt
      obtain ⟨g, rfl, hg, hc⟩ := hcell i hil
      have htk : l.take (i + 1) = l.take i ++ [l.getD i []] := by
        rw [List.take_succ_eq_append_getElem hil]; simp [List.getD, hil]
      have HT := Lib.hid htk
      have hm : l.getD i [] ∈ l := by
        simp only [List.getD_eq_getElem?_getD, List.getElem?_eq_getElem hil, Option.getD_some]
        exact List.getElem_mem hil
      clear htk hcell h
      obtain ⟨y, hy⟩ : ∃ y, Hid (l.getD i [] = y) := ⟨_, rfl⟩
      rw [hy.out] at hc HT hm
      by_cases he : y = x
      · subst he
        have HB := Lib.hid (show isIn l y = true by simp [isIn, hm])
        go_wp2
        go_ret
        exact ⟨by rw [HB.out]; rfl, rfl⟩
      · have hne : (y == x) = false := by rw [beq_eq_false_iff_ne]; exact he
        go_wp2
        go_round
        case rel => exact ⟨i + 1, by go_num, by omega, by rw [HT.out]; intro z hz; rw [List.mem_append] at hz; rcases hz with hz | hz; exact HN.out z hz; rw [List.mem_singleton] at hz; rw [hz]; exact he⟩
        case measure => simp [intOf]; omega
    · have hb : isIn l x = false := by
        unfold isIn
        rw [decide_eq_false_iff_not]
        intro hm
        refine HN.out x ?_ rfl
        rw [List.take_of_length_le (by rw [hln.out]; omega)]
        exact hm
      have HB := Lib.hid hb
      clear hb
      go_wp2
      go_ret
      exact ⟨by rw [HB.out]; rfl, rfl⟩

/-- A set of the program. -/
def IsS (w : World) (v : Value) (l : List Tx) : Prop := ∃ u, v = .agg #[u] ∧ IsT w u l ∧ Rise l ∧ l.length ≤ 100
theorem IsS.below {w w' : World} {v : Value} {l : List Tx} (h : IsS w v l) (hb : Below w.heap.size w w') : IsS w' v l := by
  obtain ⟨u, e, h1, h2⟩ := h
  exact ⟨u, e, h1.below hb, h2⟩
/-- It answers a set. -/
def RetS (l : List Tx) (w : World) (e : Ending) (w' : World) : Prop := ∃ v, e = .returned v ∧ IsS w' v l ∧ Below w.heap.size w w'

theorem list_any (v : Value) (l : List Tx) (w : World) (h : IsS w v l) : Calls Try.prog 25 #[v] w (RetT l w) := by
  obtain ⟨u, rfl, ht, hr, hn⟩ := h
  obtain ⟨A, c, rfl, hlc, _⟩ := ht.form
  have hc : ∀ W, Below w.heap.size w W → Calls Try.prog 26 #[.slice A l.length c] W (RetT l W) := fun W hb => by
    refine copied_any A c l W (by omega) ?_
    rcases ht.below hb with ⟨e, h2⟩ | ⟨g, c', cs, e, h1, h2, h3⟩
    · injection e with e1 e2 e3
      exact .inl ⟨e1, h2, e3⟩
    · injection e with e1 e2 e3
      exact .inr ⟨_, e1, fun i hi => by rw [add_zero_block, h2.cell, h3 i hi]⟩
  obtain ⟨n, hln⟩ : ∃ n, Hid (l.length = n) := ⟨_, rfl⟩
  rw [hln.out] at hc hn hlc ⊢
  have HC := Lib.hid hc
  clear hc
  go_enter Try.func25, Try.ntmps25
  go_wp2_with fail
  refine (HC.out _ (below_new w _)).mono ?_
  rintro e w1 ⟨v, rfl, h1, y1⟩
  go_wp2
  go_ret
  exact ⟨_, rfl, h1, below_step (below_new w _) y1⟩
theorem len_any (v : Value) (l : List Tx) (w : World) (h : IsS w v l) : Calls Try.prog 19 #[v] w (RetV (.int .i64 (l.length : Nat)) w) := by
  obtain ⟨u, rfl, ht, hr, hn⟩ := h
  obtain ⟨A, c, rfl, hlc, _⟩ := ht.form
  generalize l.length = n at *
  go_enter Try.func19, Try.ntmps19
  go_wp2
  go_ret
  exact ⟨rfl, below_new w _⟩
theorem at_no (v : Value) (l : List Tx) (i : Int) (w : World) (h : IsS w v l) (hi : i < 0 ∨ (l.length : Int) ≤ i) : Calls Try.prog 18 #[v, .int .i64 i] w (RetV (.tuple #[.string ⟨#[]⟩, .bool false]) w) := by
  obtain ⟨u, rfl, ht, hr, hn⟩ := h
  obtain ⟨A, c, rfl, hlc, _⟩ := ht.form
  generalize l.length = n at *
  by_cases h0 : i < 0
  · go_enter Try.func18, Try.ntmps18
    go_wp2
    go_ret2
    exact ⟨rfl, below_new w _⟩
  · have h1 : (n : Int) ≤ i := by omega
    go_enter Try.func18, Try.ntmps18
    go_wp2
    go_ret2
    exact ⟨rfl, below_new w _⟩
theorem at_yes (v : Value) (l : List Tx) (i : Nat) (w : World) (h : IsS w v l) (hi : i < l.length) : Calls Try.prog 18 #[v, .int .i64 (i : Nat)] w (RetV (.tuple #[.string ⟨(l.getD i []).toArray⟩, .bool true]) w) := by
  obtain ⟨u, rfl, ht, hr, hn⟩ := h
  obtain ⟨A, c, rfl, hlc, hcell⟩ := ht.form
  obtain ⟨g, rfl, hg, hc⟩ := hcell i hi
  have hc1 : (w.alloc (.cells #[.slice (some ⟨g, 0, none⟩) l.length c] 26)).cell? ⟨g, i, none⟩ = some (.string ⟨(l.getD i []).toArray⟩) := cell_on (below_new w _) hc hg
  clear hcell hc
  generalize l.getD i [] = x at *
  generalize l.length = n at *
  go_enter Try.func18, Try.ntmps18
  go_wp2
  go_ret2
  exact ⟨rfl, below_new w _⟩
end Go.Proofs.Ytanpncjnojjmkab
