/-
  Tables: the mapping of a character that is no syllable (Map), in a row of its own.
-/
import Derived.Test.YthmdapcieghbbabDoorMD
import Derived.Laws.AppendOwnNone
namespace Go.Proofs.YthmdapcieghbbabDoor
set_option linter.unusedVariables false
set_option maxRecDepth 20000
open Go.RowKit

theorem own_nil (w : World) (B : Nat) (e : TypeId) : w.ownsRow B e 1 (.slice none 0 0) 0 [] := ⟨rfl, .inl ⟨rfl, rfl⟩⟩
/-- The cells of numbers that may be negative. -/
def cellsI (l : List Int) : List Value := l.map fun x => Value.int .i32 x
theorem cellsI_length (l : List Int) : (cellsI l).length = l.length := by simp [cellsI]
theorem cellsI_get (l : List Int) {i : Nat} (h : i < l.length) : (cellsI l)[i]? = some (.int .i32 (l.getD i 0)) := by simp [cellsI, List.getD, h]
theorem cellsI_append (l r : List Int) : cellsI (l ++ r) = cellsI l ++ cellsI r := by simp [cellsI]
theorem cellsI_one (l : List Int) : ∀ u ∈ cellsI l, u.oneCell' = true := by
  intro u hu
  simp only [cellsI, List.mem_map] at hu
  obtain ⟨x, _, rfl⟩ := hu
  rfl
/-- It answers runes in a row of its own. -/
def RetOw (l : List Int) (w : World) (e : Ending) (w' : World) : Prop := ∃ u, e = .returned u ∧ w'.ownsRow w.heap.size 21 1 u l.length (cellsI l) ∧ Below w.heap.size w w' ∧ (l = [] → u = .slice none 0 0)
theorem run_mapF (x y z : Value) (w : World) : Sem.run Tryd.prog (Instr.field 45 (.agg #[x, y, z]) 2) w = .ok z w := by
  simp [Instr.field, asAgg, go_sem]
/-- The slice with the address A leads to these numbers. -/
def RowI (w : World) (A : Option Addr) (l : List Int) : Prop := l ≠ [] → ∃ g, A = some ⟨g, 0, none⟩ ∧ g < w.heap.size ∧ ∀ i, i < l.length → w.cell? ⟨g, i, none⟩ = some (.int .i32 (l.getD i 0))
theorem RowI.below {w w' : World} {A : Option Addr} {l : List Int} (h : RowI w A l) (hb : Below w.heap.size w w') : RowI w' A l := fun hn => by
  obtain ⟨g, e, hl, hc⟩ := h hn
  exact ⟨g, e, Nat.lt_of_lt_of_le hl hb.size, fun i hi => (hb.cell (p := ⟨g, _, none⟩) hl).trans (hc i hi)⟩
theorem RowI.none_ {w : World} {l : List Int} (h : RowI w none l) : l = [] := by
  rcases Classical.em (l = []) with h1 | h1
  · exact h1
  · obtain ⟨g, e, _⟩ := h h1
    cases e
theorem RowI.src {w : World} {ad : Addr} {l : List Int} (h : RowI w (some ad) l) : ∀ (j : Nat) (u : Value), (cellsI l)[j]? = some u → w.cell? (ad.add j) = some u := by
  intro j u hu
  have hj : j < l.length := by
    rcases Nat.lt_or_ge j l.length with h1 | h1
    · exact h1
    · rw [List.getElem?_eq_none (by rw [cellsI_length]; exact h1)] at hu; cases hu
  rw [cellsI_get l hj] at hu
  injection hu with hu
  subst hu
  obtain ⟨g, e, _, hc⟩ := h (by intro e; simp [e] at hj)
  injection e with e
  subst e
  rw [add_off, Nat.zero_add]
  exact hc j hj
/-- A row's mapping lies in memory. -/
structure MapAt (w : World) (r : Rw) : Prop where
  row : RowI w r.at_ r.map
  cap : r.at_ = none → r.cap = 0
  len : r.map.length ≤ 1000000
theorem MapAt.below {w w' : World} {r : Rw} (h : MapAt w r) (hb : Below w.heap.size w w') : MapAt w' r := ⟨h.row.below hb, h.cap, h.len⟩

set_option maxHeartbeats 1000000 in
theorem map_plain (A B : Option Addr) (q b r : Nat) (T : List Rw) (x : Int) (w : World) (ht : TabAt w A T) (hr : Rises T) (hn : T.length ≤ 2000000) (hm : MapAt w (rowC T x))
    (hl : -2147483648 ≤ x) (hc : x ≤ 2147483647) (hx : x < 44032 ∨ 55203 < x) :
    Calls Tryd.prog 18 #[.agg #[.slice A T.length q, .slice B b r], .int .i32 x] w (RetOw (rowC T x).map w) := by
  have HC0 : ∀ W, Below w.heap.size w W → Calls Tryd.prog 22 #[.agg #[.slice A T.length q, .slice B b r], .int .i32 x] W (RetV (rowC T x).val W) := fun W hb => row_any A B q b r T x W (ht.below hb) hr hn
  have HM0 : ∀ W, Below w.heap.size w W → RowI W (rowC T x).at_ (rowC T x).map := fun W hb => hm.row.below hb
  have hcap := hm.cap
  have hlen := hm.len
  unfold Rw.val Rw.slice at HC0
  have HC := Lib.hid HC0
  have HM := Lib.hid HM0
  have HP := Lib.hid (fun W => pair_none x W hl hc hx)
  clear HC0 HM0 ht hr hn hm hx
  obtain ⟨i0, hi, hz0, hz1, hz2⟩ := info_parts rune_info
  generalize (rowC T x).code = rc at *
  generalize (rowC T x).cls = rk at *
  generalize (rowC T x).at_ = ra at *
  generalize (rowC T x).map = l at *
  generalize (rowC T x).cap = rq at *
  generalize T.length = n at *
  obtain ⟨p, hp⟩ : ∃ p, l.length = p := ⟨_, rfl⟩
  rw [hp] at HC hlen
  unfold RetOw
  rw [hp]
  have bW := below_new w (.cells #[.slice A n q, .slice B b r] 34)
  go_enter Tryd.func18, Tryd.ntmps18
  go_wp2_with fail
  refine (HP.out _).mono ?_
  rintro e w0 ⟨rfl, rfl⟩
  go_wp2_with fail
  refine (HC.out _ bW).mono ?_
  rintro e w1 ⟨rfl, y1⟩
  have b1 := below_step bW y1
  have HR := Lib.hid (HM.out w1 b1)
  have hbase := b1.size
  clear HM HC HP
  go_wp2
  simp only [run_mapF]
  have hcel : (cellsI l).length = p * 1 := by rw [cellsI_length, hp]; omega
  have hone := cellsI_one l
  rcases ra with _ | ad
  · obtain rfl : rq = 0 := hcap rfl
    have hl0 : l = [] := HR.out.none_
    obtain rfl : p = 0 := by rw [← hp, hl0]; rfl
    go_wp2_with (at_builtin; refine wpList_append_own_none rfl (.tmp 19) (.tmp 23) 41 rfl w.heap.size 21 i0 1 Tryd.underlying41 hi _ 0 [] rfl (own_nil _ _ _) rfl ?_)
    go_ret
    exact ⟨.slice none 0 0, rfl, own_nil _ _ _, b1, by first | rfl | exact fun _ => rfl⟩
  · have hsrc := HR.out.src
    clear hcap
    go_wp2_with (at_builtin; refine wpList_append_own _ rfl (.tmp 19) (.tmp 23) 41 rfl w.heap.size 21 i0 (.int .i32 0) 1 4 Tryd.underlying41 hi hz0 hz1 hz2 rfl (by decide) _ 0 [] rfl (own_nil _ _ _) ad p rq (cellsI l) rfl hcel hsrc hone (by unfold maxLen; omega) (by omega) hbase ?_; intro v' w10 hown10 hgrow hiff)
    go_ret
    exact ⟨v', rfl, by simpa using hown10, b1.grown hgrow hbase (by intro k hk; cases hk), fun hl => hiff.2 ⟨rfl, by rw [← hp, hl]; rfl⟩⟩
end Go.Proofs.YthmdapcieghbbabDoor
