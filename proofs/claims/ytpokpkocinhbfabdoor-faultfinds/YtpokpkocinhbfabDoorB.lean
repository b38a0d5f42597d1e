/-
  Contracts of the fault package: appendFaults, Line, Notes.
-/
import Derived.Test.YtpokpkocinhbfabDoorA
import Derived.Deep.Onto
namespace Go.Proofs.YtpokpkocinhbfabDoor
set_option linter.unusedVariables false
set_option maxRecDepth 20000
open Go.RowKit Go.Extern.Stop Go.Stop Go.Extern

theorem ptr_info : (Tryd.prog.info? 36).map (fun i => (i.zero, i.size, i.bytes)) = some (some (.pointer none), 1, 8) := by kernel_rfl
theorem str_info : (Tryd.prog.info? 9).map (fun i => (i.zero, i.size, i.bytes)) = some (some (.string ⟨#[]⟩), 1, 16) := by kernel_rfl

def ptrs (gs : List Nat) : List Value := gs.map fun g => .pointer (some ⟨g, 0, none⟩)
def strs (ss : List ByteArray) : List Value := ss.map fun s => .string s
theorem ptrs_snoc (gs : List Nat) (g : Nat) : ptrs gs ++ [.pointer (some ⟨g, 0, none⟩)] = ptrs (gs ++ [g]) := by simp [ptrs]
theorem strs_snoc (ss : List ByteArray) (s : ByteArray) : strs ss ++ [.string s] = strs (ss ++ [s]) := by simp [strs]

/-- It answers the faults of the chain, in a row of its own. -/
def RetF (l : List Lk) (w : World) (e : Ending) (w' : World) : Prop := ∃ u gs, e = .returned u ∧ Ats w gs l ∧ w'.ownsRow w.heap.size 36 1 u l.length (ptrs gs) ∧ Below w.heap.size w w'

set_option maxHeartbeats 2000000 in
theorem faults_any (v : Value) (l : List Lk) (w : World) (h : Chn w v l) (hl : l.length ≤ 1000) :
    Calls Tryd.prog 31 #[.slice none 0 0, v] w (RetF l w) := by
  obtain ⟨i0, hi0, hz0, hz1, hz2⟩ := info_parts ptr_info
  have t36 := ta36
  have t92 := ta92
  have mU := mUnwrap
  go_enter Tryd.func31, Tryd.ntmps31
  go_wp2
  go_loopg [0, 1] l.length (fun k u v wx => ∃ done rest gs, Aside (l = done ++ rest) ∧ rest.length = k ∧ Chn w v rest ∧ Ats w gs done ∧ wx.ownsRow w.heap.size 36 1 u done.length (ptrs gs) ∧ Below w.heap.size w wx)
  case atStart => exact ⟨[], l, [], rfl, rfl, h, trivial, ⟨by simp [ptrs], .inl ⟨rfl, rfl⟩⟩, Below.refl _ _⟩
  case round =>
    obtain ⟨done, rest, gs, hl1, hk, hc, ha, hown, hb⟩ := hrel
    have hbs := hb.size
    have hlen : done.length + rest.length ≤ 1000 := by rw [hl1.out] at hl; simpa using hl
    cases rest with
    | nil =>
      obtain rfl := (hc : _ = Value.nilIface)
      have hl2 : l = done := by rw [hl1.out]; simp
      subst hl2
      clear hl1 hk
      obtain ⟨ao, cap, rfl⟩ : ∃ ao cap, u0 = .slice ao l.length cap := by
        rcases hown.2 with ⟨hv, h0⟩ | ⟨g, cap, cur, hv, _⟩
        · exact ⟨none, 0, by rw [hv, h0]⟩
        · exact ⟨_, _, hv⟩
      go_wp2
      go_ret
      exact ⟨_, gs, rfl, ha, hown, hb⟩
    | cons x r =>
      obtain ⟨g, c, rfl, hk1, hr⟩ := hc
      subst hk
      have hg := hk1.lt
      simp only [List.length_cons] at hlen
      have hd : done.length ≤ 999 := by omega
      have hd2 : (done.length + 1) * 8 ≤ 140737488355328 := by omega
      clear hlen
      go_wp2_with (first
        | (at_builtin; refine wpList_append_own _ rfl (.tmp 24) (.tmp 26) 63 rfl w.heap.size 36 i0 (.pointer none) 1 8 Tryd.underlying63 hi0 hz0 hz1 hz2 rfl (by decide) u0 done.length (ptrs gs) rfl (hown.alloc _) ⟨wr.heap.size, 0, none⟩ 1 1 [.pointer (some ⟨g, 0, none⟩)] rfl rfl (cell_one_new _ _ _) (by simp [Value.oneCell']) (by unfold maxLen; omega) hd2 (by simp; omega) ?_; intro v' w1 hown1 hgrow _; have hb1 : Below w.heap.size w w1 := (bel_new hb _).grown hgrow (by simp; omega) (fun k hk => (hown.lt k hk).1); have hk3 := hk1.on hb1; clear hgrow)
        | (go_at_call 21; refine (unwrap_any g _ _ _ c _ hk3).mono ?_; rintro e w' ⟨rfl, rfl⟩))
      go_roundg r.length
      case measure => simp
      case rel => exact ⟨done ++ [x], r, gs ++ [g], by rw [hl1.out]; simp [Aside], rfl, hr, ha.snoc hk1, by rw [← ptrs_snoc]; simpa using hown1, hb1⟩

/-- What a row of pointers reads as. -/
theorem ptrs_at {gs : List Nat} {i g : Nat} (h : gs[i]? = some g) : (ptrs gs)[i]? = some (.pointer (some ⟨g, 0, none⟩)) := by simp [ptrs, h]
theorem strs_at {ss : List ByteArray} {i : Nat} {s : ByteArray} (h : ss[i]? = some s) : (strs ss)[i]? = some (.string s) := by simp [strs, h]

/-- A row of the call's own that holds something: where it lies. -/
theorem own_at {w : World} {B n i : Nat} {e : TypeId} {u y : Value} {xs : List Value} (h : w.ownsRow B e 1 u n xs) (hy : xs[i]? = some y) : ∃ g cap, u = .slice (some ⟨g, 0, none⟩) n cap ∧ w.cell? ⟨g, i, none⟩ = some y := by
  have hi : i < xs.length := by
    rcases Nat.lt_or_ge i xs.length with h1 | h1
    · exact h1
    · rw [List.getElem?_eq_none h1] at hy; cases hy
  have hn : 0 < n := by have := h.1; omega
  obtain ⟨g, cap, rfl⟩ : ∃ g cap, u = .slice (some ⟨g, 0, none⟩) n cap := by
    rcases h.2 with ⟨_, h0⟩ | ⟨g, cap, cur, hv, _⟩
    · omega
    · exact ⟨g, cap, hv⟩
  have := h.cells (g := g) rfl i y hy
  rw [add_off, Nat.zero_add] at this
  exact ⟨g, cap, rfl, this⟩
theorem own_form {w : World} {B n : Nat} {e : TypeId} {u : Value} {xs : List Value} (h : w.ownsRow B e 1 u n xs) : ∃ ao cap, u = .slice ao n cap := by
  rcases h.2 with ⟨hv, h0⟩ | ⟨g, cap, cur, hv, _⟩
  · exact ⟨none, 0, by rw [hv, h0]⟩
  · exact ⟨_, _, hv⟩

theorem lineOf_drop {l : List Lk} {k : Nat} {x : Lk} (h : l[k]? = some x) : lineOf (l.drop k) = if x.line = 0 then lineOf (l.drop (k + 1)) else x.line := by
  have hk : k < l.length := by
    rcases Nat.lt_or_ge k l.length with h1 | h1
    · exact h1
    · rw [List.getElem?_eq_none h1] at h; cases h
  rw [List.drop_eq_getElem_cons hk]
  have : l[k] = x := by rw [List.getElem?_eq_getElem hk] at h; exact Option.some.inj h
  rw [this]; rfl

set_option maxHeartbeats 2000000 in
theorem line_any (v : Value) (l : List Lk) (w : World) (h : Chn w v l) (hl : l.length ≤ 1000) :
    Calls Tryd.prog 13 #[v] w (RetV (.int .i64 (lineOf l)) w) := by
  go_enter Tryd.func13, Tryd.ntmps13
  go_wp2_with fail
  refine (faults_any v l w h hl).mono ?_
  rintro e w1 ⟨u, gs, rfl, ha, hown, hb⟩
  obtain ⟨ao, cap, rfl⟩ := own_form hown
  go_wp2
  go_loopg [8] l.length (fun n i wx => ∃ k : Nat, k + n = l.length ∧ i = .int .i64 k ∧ Aside (lineOf l = lineOf (l.drop k)) ∧ w1 = wx)
  case atStart => exact ⟨0, by omega, rfl, by simp [Aside], rfl⟩
  case round =>
    obtain ⟨k, hk, rfl, hv, rfl⟩ := hrel
    by_cases hlt : k < l.length
    · obtain ⟨x, hx⟩ : ∃ x, l[k]? = some x := ⟨_, List.getElem?_eq_getElem hlt⟩
      obtain ⟨g, c, hg, hbk⟩ := ha.at_ hx
      obtain ⟨g', cap', he, hc⟩ := own_at hown (ptrs_at hg)
      simp only [Value.slice.injEq] at he
      obtain ⟨rfl, _, rfl⟩ := he
      have hc1 : w1.cell? ⟨g, 1, none⟩ = some (.int .i64 x.line) := (hbk.on hb).cell 1
      have hd := lineOf_drop hx
      have HV : Hid (lineOf l = if x.line = 0 then lineOf (l.drop (k + 1)) else x.line) := by rw [← hd]; exact hv.out
      have HK := Lib.hid hk
      clear hd hv hx hg hk
      by_cases hz : x.line = 0
      · have hz1 : (x.line != 0) = false := by simp [hz]
        have HZ := Lib.hid hz
        clear hz
        go_wp2
        go_roundg (l.length - (k + 1))
        case measure => have := HK.out; omega
        case rel => exact ⟨k + 1, by omega, by go_num, by rw [Aside, HV.out, if_pos HZ.out], rfl⟩
      · have hz1 : (x.line != 0) = true := by simp [hz]
        have HZ := Lib.hid hz
        clear hz
        go_wp2
        go_ret
        exact ⟨by rw [HV.out, if_neg HZ.out]; rfl, hb⟩
    · have hk0 : k = l.length := by omega
      have HV : Hid (lineOf l = 0) := by rw [hv.out, hk0]; simp [Hid, lineOf]
      clear hv
      go_wp2
      go_ret
      exact ⟨by rw [HV.out]; rfl, hb⟩

/-- It answers the texts ss, in a row of its own. -/
def RetS (ss : List ByteArray) (w : World) (e : Ending) (w' : World) : Prop := ∃ u, e = .returned u ∧ w'.ownsRow w.heap.size 9 1 u ss.length (strs ss) ∧ Below w.heap.size w w'

theorem notesOf_take {l : List Lk} {k : Nat} {x : Lk} (h : l[k]? = some x) : notesOf (l.take (k + 1)) = if x.note.size = 0 then notesOf (l.take k) else notesOf (l.take k) ++ [x.note] := by
  induction l generalizing k with
  | nil => simp at h
  | cons y r ih =>
    cases k with
    | zero => simp at h; subst h; simp [notesOf]
    | succ k =>
      simp at h
      have := ih h
      simp only [List.take_succ_cons, notesOf]
      rw [this]
      split <;> split <;> simp_all
theorem notesOf_le (l : List Lk) : (notesOf l).length ≤ l.length := by
  induction l with
  | nil => simp [notesOf]
  | cons x r ih => simp only [notesOf]; split <;> simp <;> omega
theorem size_zero {s : ByteArray} (h : s.size = 0) : s = ⟨#[]⟩ := by
  obtain ⟨⟨l⟩⟩ := s
  have : l.length = 0 := h
  rw [List.eq_nil_of_length_eq_zero this]

theorem full_list {s : ByteArray} (h : ¬ s.size = 0) : (!s.toList.isEmpty) = true := by
  rw [ByteArray.toList_eq]
  cases hl : s.data.toList with
  | nil => exact absurd (show s.size = 0 by show s.data.size = 0; simpa using congrArg List.length hl) h
  | cons _ _ => rfl

set_option maxHeartbeats 4000000 in
theorem notes_any (v : Value) (l : List Lk) (w : World) (h : Chn w v l) (hl : l.length ≤ 1000) :
    Calls Tryd.prog 16 #[v] w (RetS (notesOf l) w) := by
  obtain ⟨i0, hi0, hz0, hz1', hz2⟩ := info_parts str_info
  go_enter Tryd.func16, Tryd.ntmps16
  go_wp2_with fail
  refine (faults_any v l w h hl).mono ?_
  rintro e w1 ⟨u, gs, rfl, ha, hown, hb⟩
  obtain ⟨ao, cap, rfl⟩ := own_form hown
  have hbs := hb.size
  go_wp2
  go_loopg [3, 9] l.length (fun n ns i wx => ∃ k : Nat, k + n = l.length ∧ i = .int .i64 k ∧ wx.ownsRow w1.heap.size 9 1 ns (notesOf (l.take k)).length (strs (notesOf (l.take k))) ∧ Below w1.heap.size w1 wx)
  case atStart => exact ⟨0, by omega, rfl, ⟨by simp [strs, notesOf], .inl ⟨rfl, by simp [notesOf]⟩⟩, Below.refl _ _⟩
  case round =>
    obtain ⟨k, hk, rfl, hrow, hb1⟩ := hrel
    have hb1s := hb1.size
    by_cases hlt : k < l.length
    · obtain ⟨x, hx⟩ : ∃ x, l[k]? = some x := ⟨_, List.getElem?_eq_getElem hlt⟩
      obtain ⟨g, c, hg, hbk⟩ := ha.at_ hx
      obtain ⟨g', cap', he, hc⟩ := own_at hown (ptrs_at hg)
      simp only [Value.slice.injEq] at he
      obtain ⟨rfl, _, rfl⟩ := he
      have hgl := (hown.lt g' rfl).2
      have hbw := hb.trans (hb1.mono hbs)
      have hc0 : wr.cell? ⟨g', k, none⟩ = some (.pointer (some ⟨g, 0, none⟩)) := (hb1.cell (p := ⟨g', k, none⟩) hgl).trans hc
      have hc1 : wr.cell? ⟨g, 2, none⟩ = some (.string x.note) := (hbk.on hbw).cell 2
      have HT := Lib.hid (notesOf_take hx)
      have HK := Lib.hid hk
      have hle := notesOf_le (l.take k)
      have hle2 : (l.take k).length ≤ 1000 := by rw [List.length_take]; omega
      clear hx hg hk hc
      generalize notesOf (l.take k) = ss at *
      by_cases hz : x.note.size = 0
      · have hs := size_zero hz
        rw [hs] at hc1
        have HZ := Lib.hid hz
        clear hz hs
        go_wp2
        go_roundg (l.length - (k + 1))
        case measure => have := HK.out; omega
        case rel => exact ⟨k + 1, by omega, by go_num, by rw [HT.out, if_pos HZ.out]; exact hrow, hb1⟩
      · have HZ := Lib.hid hz
        have hz1 := full_list hz
        have hb16 : (ss.length + 1) * 16 ≤ 140737488355328 := by omega
        clear hz hle2 hle
        go_wp2_with (at_builtin; refine wpList_append_own _ rfl (.tmp 18) (.tmp 23) 33 rfl w1.heap.size 9 i0 (.string ⟨#[]⟩) 1 16 Tryd.underlying33 hi0 hz0 hz1' hz2 rfl (by decide) u3 ss.length (strs ss) rfl (hrow.alloc _) ⟨wr.heap.size, 0, none⟩ 1 1 [.string x.note] rfl rfl (cell_one_new _ _ _) (by simp [Value.oneCell']) (by unfold maxLen; omega) hb16 (by simp; omega) ?_; intro v' w2 hown2 hgrow _; have hb2 : Below w1.heap.size w1 w2 := (hb1.alloc hb1s _).grown hgrow (by simp; omega) (fun k hk => (hrow.lt k hk).1); clear hgrow)
        go_roundg (l.length - (k + 1))
        case measure => have := HK.out; omega
        case rel => exact ⟨k + 1, by omega, by go_num, by rw [HT.out, if_neg HZ.out, ← strs_snoc]; simpa using hown2, hb2⟩
    · have hk0 : k = l.length := by omega
      subst hk0
      rw [List.take_length] at hrow
      obtain ⟨ao2, cap2, rfl⟩ := own_form hrow
      go_wp2
      go_ret
      exact ⟨_, rfl, hrow.mono hbs, hb.trans (hb1.mono hbs)⟩
end Go.Proofs.YtpokpkocinhbfabDoor
