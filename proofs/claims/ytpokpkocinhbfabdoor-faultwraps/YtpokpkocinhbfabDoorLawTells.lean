/-
  The walk of the law on what is told of a chain.
-/
import Derived.Test.YtpokpkocinhbfabDoorK
import Derived.Deep.DeepCutAuto
import Derived.Deep.CutRange
namespace Go.Proofs.YtpokpkocinhbfabDoor
set_option linter.unusedVariables false
set_option maxRecDepth 20000
open Go.RowKit Go.Extern.Stop Go.Stop Go.Extern

def top : Lk := { code := 8, line := 3, note := ⟨#[120]⟩ }
theorem top_fits {l : List Lk} (h : ∀ y ∈ l, y.Fits) : ∀ y ∈ top :: l, y.Fits := by
  intro y hy
  rcases List.mem_cons.1 hy with rfl | hy
  · exact ⟨by decide, by decide, by show 1 ≤ 1000; decide⟩
  · exact h y hy

theorem link_src {w : World} {B : Nat} {g n cap : Nat} {l : List Lk} (h : w.ownsRow B 40 3 (.slice (some ⟨g, 0, none⟩) n cap) n (linkCells l)) : ∀ (j : Nat) (u : Value), (linkCells l)[j]? = some u → w.cell? ((⟨g, 0, none⟩ : Addr).add j) = some u := h.cells (g := g) rfl
theorem linkCells_one (l : List Lk) : ∀ u ∈ linkCells l, u.oneCell' = true := by
  induction l with
  | nil => simp [linkCells]
  | cons x r ih =>
    intro u hu
    simp only [linkCells, List.mem_append] at hu
    rcases hu with hu | hu
    · exact links_one x u hu
    · exact ih u hu

set_option maxHeartbeats 8000000 in
theorem faultTells_walk (A : Option Addr) (n c : Nat) (l0 : List Lk) (w : World) (he : Env w) (h0 : CameL w A n c l0) : Calls Tryd.prog 3 #[.slice A n c] w (RetV (.bool true) w) := by
  obtain ⟨i0, hi0, hz0, hz1', hz2⟩ := info_parts link_info
  obtain ⟨l, hl, hf, _, FW⟩ := h0.few
  have FW := Lib.hid FW
  clear h0
  go_enter Tryd.func3, Tryd.ntmps3
  go_wp2_with fail
  refine (awake_any w he).mono ?_
  rintro e w1 ⟨rfl, b1⟩
  go_wp2_with fail
  refine (FW.out _ b1).mono ?_
  rintro e w2 ⟨u, rfl, hrow, b2⟩
  have b2 := below_step b1 b2
  obtain ⟨A2, c2, rfl, hL⟩ := own_links hrow
  clear FW b1
  go_wp2_with fail
  refine (chain_any A2 c2 l _ hL (by omega)).mono ?_
  rintro e w3 ⟨v, rfl, hC, b3⟩
  have hL := hL.kept b3
  have hrow := own_kept hrow b3
  have b3 := below_step b2 b3
  have hl1 : l.length ≤ 1000 := by omega
  clear b2
  go_wp2_with fail
  refine (code_any v l _ (he.kept b3).1 hC).mono ?_
  rintro e w4 ⟨rfl, y4⟩
  go_wp2_with fail
  refine (refCode_any A2 c2 l _ (hL.kept y4) hl1).mono ?_
  rintro e w5 ⟨rfl, y5⟩
  have y5 := below_step y4 y5
  generalize codeOf l = cd at *
  go_wp2_with fail
  refine (line_any v l _ (hC.kept y5) hl1).mono ?_
  rintro e w6 ⟨rfl, y6⟩
  have y6 := below_step y5 y6
  go_wp2_with fail
  refine (refLine_any A2 c2 l _ (hL.kept y6) hl1).mono ?_
  rintro e w7 ⟨rfl, y7⟩
  have y7 := below_step y6 y7
  generalize lineOf l = ln at *
  go_wp2_with fail
  refine (notes_any v l _ (hC.kept y7) hl1).mono ?_
  rintro e w8 ⟨r1, rfl, hr1, z8⟩
  have y8 := below_step y7 z8
  go_wp2_with fail
  refine (refNotes_any A2 c2 l _ (hL.kept y8) hl1).mono ?_
  rintro e w9 ⟨r2, rfl, hr2, z9⟩
  have y9 := below_step y8 z9
  have hr1 := own_kept hr1 z9
  have hss : (notesOf l).length ≤ 1000 := by have := notesOf_le l; omega
  go_wp2_with fail
  refine (same_any _ _ _ _ (notesOf l) _ hr1 hr2 hss).mono ?_
  rintro e W ⟨rfl, z10⟩
  have yW := below_step y9 z10
  have hL := hL.kept yW
  have hC := hC.kept yW
  have hrow := own_kept hrow yW
  have bW := below_step b3 yW
  clear y4 y5 y6 y7 y8 y9 z8 z9 z10 hr1 hr2 hss yW b3
  have hsh : v = .nilIface ∨ ∃ q, v = .iface 36 q := by
    cases l with
    | nil => exact .inl hC
    | cons x r => obtain ⟨g, d, e, _⟩ := hC; exact .inr ⟨_, e⟩
  have hl3 : (top :: l).length ≤ 1000 := by simp; omega
  have hft := Lib.hid (top_fits hf)
  have hf := Lib.hid hf
  go_upto_region 7 with fail
  go_cut [4] (fun s4 wx => s4 = .pointer (some ⟨W.heap.size, 0, none⟩) ∧ Blk wx W.heap.size 38 #[.int .i64 8, .int .i64 3, .string ⟨#[120]⟩, v] ∧ Below W.heap.size W wx)
  case first =>
    rcases hsh with rfl | ⟨q, rfl⟩
    all_goals
      go_wp2_with fail
      go_meet
      exact ⟨rfl, Blk.new W 38 _, below_new W _⟩
  case rest =>
    obtain ⟨rfl, hK, yV⟩ := hcut
    generalize wc = V at *
    have hCf : Chn V (.iface 36 (.pointer (some ⟨W.heap.size, 0, none⟩))) (top :: l) := ⟨_, _, rfl, hK, hC.kept yV⟩
    have hC := hC.kept yV
    have hL := hL.kept yV
    have hrow := own_kept hrow yV
    have bV := below_step bW yV
    have hWl := hK.lt
    clear yV bW hsh
    go_upto_region 8 with fail
    go_cut [5] (fun s5 wx => ∃ A5 c5, s5 = .slice A5 (l.length + 1) c5 ∧ Links wx A5 (top :: l) ∧ Below V.heap.size V wx)
    case first =>
      rcases hrow.2 with ⟨hv, hn0⟩ | ⟨g, cap, cur, hv, _⟩
      · simp only [Value.slice.injEq] at hv
        obtain ⟨rfl, _, rfl⟩ := hv
        obtain rfl : l = [] := List.eq_nil_of_length_eq_zero hn0
        go_wp2_with fail
        go_meet
        obtain ⟨A', c', e, hh⟩ := own_links (l := [top]) (World.ownsRow_lit (base := V.heap.size) (e := 40) (size := 3) V #[.int .i64 8, .int .i64 3, .string ⟨#[120]⟩] 1 (Nat.le_refl _) (by decide) rfl)
        exact ⟨A', c', e, hh, below_new V _⟩
      · simp only [Value.slice.injEq] at hv
        obtain ⟨rfl, _, rfl⟩ := hv
        have hb32 : (1 + l.length) * 32 ≤ 140737488355328 := by omega
        have hm63 : 1 + l.length ≤ maxLen := by unfold maxLen; omega
        have hlit : (V.alloc (.cells #[.int .i64 8, .int .i64 3, .string ⟨#[120]⟩] 40)).ownsRow V.heap.size 40 3 (.slice (some ⟨V.heap.size, 0, none⟩) 1 1) 1 [.int .i64 8, .int .i64 3, .string ⟨#[120]⟩] := World.ownsRow_lit V #[.int .i64 8, .int .i64 3, .string ⟨#[120]⟩] 1 (Nat.le_refl _) (by decide) rfl
        have hsrc := Lib.hid (link_src (hrow.alloc (.cells #[.int .i64 8, .int .i64 3, .string ⟨#[120]⟩] 40)))
        have hlit := Lib.hid hlit
        go_wp2_with (at_builtin; refine wpList_append_own _ rfl (.tmp 36) (.tmp 37) 22 rfl V.heap.size 40 i0 (.agg #[.int .i64 0, .int .i64 0, .string ⟨#[]⟩]) 3 32 Tryd.underlying22 hi0 hz0 hz1' hz2 rfl (by decide) (.slice (some ⟨V.heap.size, 0, none⟩) 1 1) 1 [.int .i64 8, .int .i64 3, .string ⟨#[120]⟩] rfl hlit.out ⟨g, 0, none⟩ l.length c2 (linkCells l) rfl (linkCells_length l) hsrc.out (linkCells_one l) hm63 hb32 (by simp) ?_; intro v' Y hown1 hgrow _; have yY : Below V.heap.size V Y := (below_new V _).grown hgrow (by simp) (fun k hk => by simp [Value.ownBlock] at hk; omega); clear hgrow)
        go_meet
        have hown2 : Y.ownsRow V.heap.size 40 3 v' (top :: l).length (linkCells (top :: l)) := by
          have e : (top :: l).length = 1 + l.length := by simp; omega
          rw [e]; exact hown1
        obtain ⟨A', c', e, hh⟩ := own_links hown2
        exact ⟨A', c', e, hh, yY⟩
    case rest =>
      obtain ⟨A5, c5, rfl, hOwn, yY⟩ := hcut
      generalize wc = Y at *
      have hCY := hC.kept yY
      have hLY := hL.kept yY
      have hfY := hCf.kept yY
      have hKY := hK.on yY
      have bY := below_step bV yY
      clear hC hL hCf hK bV yY hrow
      have RT := Lib.hid (fun W' (h : Links W' A5 (top :: l)) => refText_any A5 c5 (top :: l) W' h hl3 hft.out)
      rw [show (top :: l).length = l.length + 1 from rfl] at RT
      go_wp2_with fail
      refine (text_all v l _ (he.kept bY) hCY hl1 hf.out).mono ?_
      rintro e x1 ⟨rfl, q1⟩
      go_wp2_with fail
      refine (refText_any A2 c2 l _ (hLY.kept q1) hl1 hf.out).mono ?_
      rintro e x2 ⟨rfl, q2⟩
      have q2 := below_step q1 q2
      go_wp2_with fail
      refine (error_any W.heap.size top l _ (he.kept (below_step bY q2)) (hfY.kept q2) hl3 hft.out).mono ?_
      rintro e x3 ⟨rfl, q3⟩
      have q3 := below_step q2 q3
      go_wp2_with fail
      refine (RT.out _ (hOwn.kept q3)).mono ?_
      rintro e x4 ⟨rfl, q4⟩
      have q4 := below_step q3 q4
      go_wp2_with fail
      refine (unwrap_any W.heap.size _ _ _ v _ (hKY.on q4)).mono ?_
      rintro e x5 ⟨rfl, rfl⟩
      go_wp2_with fail
      refine (text_all v l _ (he.kept (below_step bY q4)) (hCY.kept q4) hl1 hf.out).mono ?_
      rintro e x6 ⟨rfl, q6⟩
      have q6 := below_step q4 q6
      go_wp2_with fail
      refine (refText_any A2 c2 l _ (hLY.kept q6) hl1 hf.out).mono ?_
      rintro e x7 ⟨rfl, q7⟩
      have q7 := below_step q6 q7
      go_wp2
      go_ret
      exact ⟨rfl, below_step bY q7⟩
end Go.Proofs.YtpokpkocinhbfabDoor
