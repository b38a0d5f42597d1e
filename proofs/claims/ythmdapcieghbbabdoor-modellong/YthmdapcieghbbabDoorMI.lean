/-
  Tables: what is told of the rows, as it lies in memory.
-/
import Derived.Test.YthmdapcieghbbabDoorTL
import Derived.Test.YthmdapcieghbbabDoorMH
import Derived.Deep.AppendLies
import Derived.Deep.RegionHeld3
namespace Go.Proofs.YthmdapcieghbbabDoor
set_option linter.unusedVariables false
set_option maxRecDepth 20000
open Go.RowKit

theorem own_on {w w' : World} {B : Nat} {e : TypeId} {s : Nat} {v : Value} {n : Nat} {xs : List Value} (h : w.ownsRow B e s v n xs) (hb : Below w.heap.size w w') : w'.ownsRow B e s v n xs := by
  obtain ⟨h1, h2⟩ := h
  refine ⟨h1, ?_⟩
  rcases h2 with h2 | ⟨g, cap, cur, hv, hg, hh, r⟩
  · exact Or.inl h2
  · refine Or.inr ⟨g, cap, cur, hv, hg, ?_, r⟩
    have hl : g < w.heap.size := by
      rcases Nat.lt_or_ge g w.heap.size with h' | h'
      · exact h'
      · rw [Array.getElem?_eq_none h'] at hh; cases hh
    exact (hb.block g hl).trans hh
/-- A row of one's own lies in a block of its elements' type. -/
theorem own_ne {w : World} {B : Nat} {e : TypeId} {s : Nat} {v : Value} {n : Nat} {xs : List Value} (h : w.ownsRow B e s v n xs) {g : Nat} {t : TypeId} {cs : Array Value} (hg : Blk w g t cs) (ht : e ≠ t) : v.ownBlock ≠ some g := by
  intro hv
  rcases h.2 with ⟨rfl, _⟩ | ⟨g', cap, cur, rfl, _, hh, _⟩
  · simp [Value.ownBlock] at hv
  · simp [Value.ownBlock] at hv
    subst hv
    unfold Blk at hg
    rw [hg] at hh
    injection hh with hh
    injection hh with _ hh
    exact ht hh.symm
theorem Blk.grown {w w' : World} {g : Nat} {t : TypeId} {cs : Array Value} {row : Option Nat} (h : Blk w g t cs) (hg : w.grownBy w' row) (hn : row ≠ some g) : Blk w' g t cs :=
  (hg.block g h.lt (Ne.symm hn)).trans h
theorem own_grown {w w' : World} {B : Nat} {e : TypeId} {s : Nat} {v : Value} {n : Nat} {xs : List Value} {row : Option Nat} (h : w.ownsRow B e s v n xs) (hg : w.grownBy w' row) (hn : ∀ k, v.ownBlock = some k → row ≠ some k) : w'.ownsRow B e s v n xs := by
  refine h.kept hg ?_
  cases hv : v.ownBlock with
  | none => exact .inl rfl
  | some k => exact .inr (Ne.symm (hn k hv))

structure MsIn (w : World) (base n gL gW gU : Nat) (us : Nat → Value) (vR : Value) (tag : Nat → Nat) (m : Ms) : Prop where
  len : ∃ cs, Blk w gL 3 cs ∧ cs.size = n ∧ ∀ i, i < n → cs[i]? = some (.int .i64 (m.len i : Nat))
  wants : ∃ cs, Blk w gW 3 cs ∧ cs.size = n ∧ ∀ i, i < n → cs[i]? = some (.int .i64 (m.wants i))
  users : ∃ cs, Blk w gU 24 cs ∧ cs.size = n ∧ ∀ i, i < n → cs[i]? = some (us i)
  rows : ∀ i, i < n → w.ownsRow base 3 1 (us i) (m.users i).length (cellsOf .i64 (m.users i))
  ready : w.ownsRow base 3 1 vR m.ready.length (cellsOf .i64 m.ready)
  bL : base ≤ gL
  bW : base ≤ gW
  bU : base ≤ gU
  tL : tag gL = 0
  tW : tag gW = 1
  tR : ∀ k, vR.ownBlock = some k → tag k = 2
  tU : ∀ i, i < n → ∀ k, (us i).ownBlock = some k → tag k = i + 3

section
variable {w w' : World} {base n gL gW gU : Nat} {us : Nat → Value} {vR : Value} {tag : Nat → Nat} {m : Ms}
theorem MsIn.on (h : MsIn w base n gL gW gU us vR tag m) (hb : Below w.heap.size w w') : MsIn w' base n gL gW gU us vR tag m := by
  obtain ⟨⟨c1, a1, a2⟩, ⟨c2, b1, b2⟩, ⟨c3, d1, d2⟩, hr, hR, r⟩ := h
  exact ⟨⟨c1, a1.on hb, a2⟩, ⟨c2, b1.on hb, b2⟩, ⟨c3, d1.on hb, d2⟩, fun i hi => own_on (hr i hi) hb, own_on hR hb, by assumption, by assumption, by assumption, by assumption, by assumption, by assumption, by assumption⟩
theorem MsIn.alloc (h : MsIn w base n gL gW gU us vR tag m) (o : Obj) : MsIn (w.alloc o) base n gL gW gU us vR tag m := h.on (below_new w o)
/-- A store into a block of another type. -/
theorem MsIn.far (h : MsIn w base n gL gW gU us vR tag m) {g : Nat} {t : TypeId} {cs : Array Value} (hg : Blk w g t cs) (h3 : 3 ≠ t) (h24 : 24 ≠ t) (i : Nat) (u : Value) : MsIn (w.setCell ⟨g, i, none⟩ u) base n gL gW gU us vR tag m := by
  obtain ⟨⟨c1, a1, a2⟩, ⟨c2, b1, b2⟩, ⟨c3, d1, d2⟩, hr, hR, r⟩ := h
  exact ⟨⟨c1, a1.far (a1.ne_ hg h3) u, a2⟩, ⟨c2, b1.far (b1.ne_ hg h3) u, b2⟩, ⟨c3, d1.far (d1.ne_ hg h24) u, d2⟩, fun i hi => ownsRow_setCell_other (hr i hi) (own_ne (hr i hi) hg h3) u, ownsRow_setCell_other hR (own_ne hR hg h3) u, by assumption, by assumption, by assumption, by assumption, by assumption, by assumption, by assumption⟩
theorem MsIn.setL (h : MsIn w base n gL gW gU us vR tag m) {i : Nat} (hi : i < n) (x : Nat) : MsIn (w.setCell ⟨gL, i, none⟩ (.int .i64 (x : Nat))) base n gL gW gU us vR tag ⟨upd m.len i x, m.wants, m.users, m.ready⟩ := by
  obtain ⟨⟨c1, a1, a2, a3⟩, ⟨c2, b1, b2⟩, ⟨c3, d1, d2⟩, hr, hR, q1, q2, q3, tL, tW, tR, tU⟩ := h
  refine ⟨⟨_, a1.set_ i _, by simp [a2], fun j hj => ?_⟩, ⟨c2, b1.far (fun e => ?_) _, b2⟩, ⟨c3, d1.far (d1.ne_ a1 (by decide)) _, d2⟩, fun j hj => ownsRow_setCell_other (hr j hj) (fun e => ?_) _, ownsRow_setCell_other hR (fun e => ?_) _, q1, q2, q3, tL, tW, tR, tU⟩
  · by_cases hji : j = i
    · subst hji
      rw [Array.getElem?_setIfInBounds_self_of_lt (by omega)]
      simp [upd]
    · rw [Array.getElem?_setIfInBounds_ne (by omega), a3 j hj]
      simp [upd, hji]
  · have e : gW = gL := e
    rw [e, tL] at tW; cases tW
  · have := tU j hj gL e; rw [tL] at this; omega
  · have := tR gL e; rw [tL] at this; omega
theorem MsIn.setW (h : MsIn w base n gL gW gU us vR tag m) {i : Nat} (hi : i < n) (x : Int) : MsIn (w.setCell ⟨gW, i, none⟩ (.int .i64 x)) base n gL gW gU us vR tag ⟨m.len, upd m.wants i x, m.users, m.ready⟩ := by
  obtain ⟨⟨c1, a1, a2⟩, ⟨c2, b1, b2, b3⟩, ⟨c3, d1, d2⟩, hr, hR, q1, q2, q3, tL, tW, tR, tU⟩ := h
  refine ⟨⟨c1, a1.far (fun e => ?_) _, a2⟩, ⟨_, b1.set_ i _, by simp [b2], fun j hj => ?_⟩, ⟨c3, d1.far (d1.ne_ b1 (by decide)) _, d2⟩, fun j hj => ownsRow_setCell_other (hr j hj) (fun e => ?_) _, ownsRow_setCell_other hR (fun e => ?_) _, q1, q2, q3, tL, tW, tR, tU⟩
  · have e : gL = gW := e
    rw [← e, tL] at tW; cases tW
  · by_cases hji : j = i
    · subst hji
      rw [Array.getElem?_setIfInBounds_self_of_lt (by omega)]
      simp [upd]
    · rw [Array.getElem?_setIfInBounds_ne (by omega), b3 j hj]
      simp [upd, hji]
  · have := tU j hj gW e; rw [tW] at this; omega
  · have := tR gW e; rw [tW] at this; omega
/-- A user is appended to a row's, and the row stored. -/
theorem MsIn.setU (h : MsIn w base n gL gW gU us vR tag m) {t : Nat} (ht : t < n) {g c : Nat} (i : Nat) (hown : w'.ownsRow base 3 1 (.slice (some ⟨g, 0, none⟩) ((m.users t).length + 1) c) ((m.users t).length + 1) (cellsOf .i64 (m.users t) ++ [.int .i64 (i : Nat)]))
    (hgr : w.grownBy w' (us t).ownBlock) (hat : (us t).ownBlock = some g ∨ g = w.heap.size) :
    ∃ us' tag', MsIn (w'.setCell ⟨gU, t, none⟩ (.slice (some ⟨g, 0, none⟩) ((m.users t).length + 1) c)) base n gL gW gU us' vR tag' ⟨m.len, m.wants, upd m.users t (m.users t ++ [i]), m.ready⟩ := by
  obtain ⟨⟨c1, a1, a2⟩, ⟨c2, b1, b2⟩, ⟨c3, d1, d2, d3⟩, hr, hR, q1, q2, q3, tL, tW, tR, tU⟩ := h
  have hnew : ∀ k, k < w.heap.size → g ≠ k ∨ tag k = t + 3 := fun k hk => by
    rcases hat with e | e
    · by_cases hgk : g = k
      · subst hgk; exact .inr (tU t ht g e)
      · exact .inl hgk
    · left; omega
  have lt_own : ∀ {v : Value} {nn : Nat} {xs : List Value}, w.ownsRow base 3 1 v nn xs → ∀ k, v.ownBlock = some k → k < w.heap.size := fun h k hk => (h.lt k hk).2
  have row : ∀ k, (us t).ownBlock = some k → tag k = t + 3 := tU t ht
  have a1' : Blk w' gL 3 c1 := a1.grown hgr (fun e => by have := row _ e; rw [tL] at this; omega)
  have b1' : Blk w' gW 3 c2 := b1.grown hgr (fun e => by have := row _ e; rw [tW] at this; omega)
  have d1' : Blk w' gU 24 c3 := d1.grown hgr (own_ne (hr t ht) d1 (by decide))
  have hR' := own_grown hR hgr (fun k hk e => by have := row _ e; rw [tR k hk] at this; omega)
  have hr' : ∀ j, j < n → j ≠ t → w'.ownsRow base 3 1 (us j) (m.users j).length (cellsOf .i64 (m.users j)) := fun j hj hjt => own_grown (hr j hj) hgr (fun k hk e => by have := row _ e; rw [tU j hj k hk] at this; omega)
  refine ⟨upd us t (.slice (some ⟨g, 0, none⟩) ((m.users t).length + 1) c), upd tag g (t + 3), ⟨c1, a1'.far (a1'.ne_ d1' (by decide)) _, a2⟩, ⟨c2, b1'.far (b1'.ne_ d1' (by decide)) _, b2⟩, ⟨_, d1'.set_ t _, by simp [d2], fun j hj => ?_⟩, fun j hj => ?_, ownsRow_setCell_other hR' (own_ne hR' d1' (by decide)) _, q1, q2, q3, ?_, ?_, fun k hk => ?_, fun j hj k hk => ?_⟩
  · by_cases hjt : j = t
    · subst hjt
      rw [Array.getElem?_setIfInBounds_self_of_lt (by omega), upd_same]
    · rw [Array.getElem?_setIfInBounds_ne (by omega), d3 j hj, upd_other _ hjt]
  · by_cases hjt : j = t
    · subst hjt
      have e1 : upd us j (.slice (some ⟨g, 0, none⟩) ((m.users j).length + 1) c) j = .slice (some ⟨g, 0, none⟩) ((m.users j).length + 1) c := upd_same _ _ _
      have e2 : upd m.users j (m.users j ++ [i]) j = m.users j ++ [i] := upd_same _ _ _
      show (w'.setCell _ _).ownsRow base 3 1 (upd us j _ j) (upd m.users j (m.users j ++ [i]) j).length (cellsOf .i64 (upd m.users j (m.users j ++ [i]) j))
      rw [e1, e2, List.length_append, cellsOf_append]
      exact ownsRow_setCell_other hown (own_ne hown d1' (by decide)) _
    · show (w'.setCell _ _).ownsRow base 3 1 (upd us t _ j) (upd m.users t (m.users t ++ [i]) j).length (cellsOf .i64 (upd m.users t (m.users t ++ [i]) j))
      rw [upd_other _ hjt, upd_other _ hjt]
      exact ownsRow_setCell_other (hr' j hj hjt) (own_ne (hr' j hj hjt) d1' (by decide)) _
  · rcases hnew gL a1.lt with e | e
    · rw [upd_other _ (Ne.symm e)]; exact tL
    · rw [tL] at e; omega
  · rcases hnew gW b1.lt with e | e
    · rw [upd_other _ (Ne.symm e)]; exact tW
    · rw [tW] at e; omega
  · rcases hnew k (lt_own hR k hk) with e | e
    · rw [upd_other _ (Ne.symm e)]; exact tR k hk
    · rw [tR k hk] at e; omega
  · by_cases hjt : j = t
    · subst hjt
      rw [upd_same] at hk
      simp [Value.ownBlock] at hk
      subst hk
      rw [upd_same]
    · rw [upd_other _ hjt] at hk
      rcases hnew k (lt_own (hr j hj) k hk) with e | e
      · rw [upd_other _ (Ne.symm e)]; exact tU j hj k hk
      · have := tU j hj k hk; omega
/-- A row is appended to those that are ready. -/
theorem MsIn.growR (h : MsIn w base n gL gW gU us vR tag m) {g c : Nat} (i : Nat) (hown : w'.ownsRow base 3 1 (.slice (some ⟨g, 0, none⟩) (m.ready.length + 1) c) (m.ready.length + 1) (cellsOf .i64 m.ready ++ [.int .i64 (i : Nat)]))
    (hgr : w.grownBy w' vR.ownBlock) (hat : vR.ownBlock = some g ∨ g = w.heap.size) :
    ∃ tag', MsIn w' base n gL gW gU us (.slice (some ⟨g, 0, none⟩) (m.ready.length + 1) c) tag' ⟨m.len, m.wants, m.users, m.ready ++ [i]⟩ := by
  obtain ⟨⟨c1, a1, a2⟩, ⟨c2, b1, b2⟩, ⟨c3, d1, d2, d3⟩, hr, hR, q1, q2, q3, tL, tW, tR, tU⟩ := h
  have hnew : ∀ k, k < w.heap.size → g ≠ k ∨ tag k = 2 := fun k hk => by
    rcases hat with e | e
    · by_cases hgk : g = k
      · subst hgk; exact .inr (tR g e)
      · exact .inl hgk
    · left; omega
  refine ⟨upd tag g 2, ⟨c1, a1.grown hgr (fun e => by have := tR _ e; rw [tL] at this; omega), a2⟩, ⟨c2, b1.grown hgr (fun e => by have := tR _ e; rw [tW] at this; omega), b2⟩, ⟨c3, d1.grown hgr (own_ne hR d1 (by decide)), d2, d3⟩, fun j hj => own_grown (hr j hj) hgr (fun k hk e => by have := tR _ e; rw [tU j hj k hk] at this; omega), ?_, q1, q2, q3, ?_, ?_, fun k hk => ?_, fun j hj k hk => ?_⟩
  · show w'.ownsRow base 3 1 _ (m.ready ++ [i]).length (cellsOf .i64 (m.ready ++ [i]))
    rw [List.length_append, cellsOf_append]
    exact hown
  · rcases hnew gL a1.lt with e | e
    · rw [upd_other _ (Ne.symm e)]; exact tL
    · rw [tL] at e; omega
  · rcases hnew gW b1.lt with e | e
    · rw [upd_other _ (Ne.symm e)]; exact tW
    · rw [tW] at e; omega
  · simp [Value.ownBlock] at hk
    subst hk
    rw [upd_same]
  · rcases hnew k ((hr j hj).lt k hk).2 with e | e
    · rw [upd_other _ (Ne.symm e)]; exact tU j hj k hk
    · have := tU j hj k hk; omega
/-- The cells. -/
theorem MsIn.cellL (h : MsIn w base n gL gW gU us vR tag m) {i : Nat} (hi : i < n) : w.cell? ⟨gL, i, none⟩ = some (.int .i64 (m.len i : Nat)) ∧ w.frozen? ⟨gL, i, none⟩ = false ∧ gL < w.heap.size := by
  obtain ⟨c1, a1, a2, a3⟩ := h.len
  exact ⟨(a1.cell i).trans (a3 i hi), a1.free i, a1.lt⟩
theorem MsIn.cellW (h : MsIn w base n gL gW gU us vR tag m) {i : Nat} (hi : i < n) : w.cell? ⟨gW, i, none⟩ = some (.int .i64 (m.wants i)) ∧ w.frozen? ⟨gW, i, none⟩ = false ∧ gW < w.heap.size := by
  obtain ⟨c1, a1, a2, a3⟩ := h.wants
  exact ⟨(a1.cell i).trans (a3 i hi), a1.free i, a1.lt⟩
theorem MsIn.cellU (h : MsIn w base n gL gW gU us vR tag m) {i : Nat} (hi : i < n) : w.cell? ⟨gU, i, none⟩ = some (us i) ∧ w.frozen? ⟨gU, i, none⟩ = false ∧ gU < w.heap.size := by
  obtain ⟨c1, a1, a2, a3⟩ := h.users
  exact ⟨(a1.cell i).trans (a3 i hi), a1.free i, a1.lt⟩
end
end Go.Proofs.YthmdapcieghbbabDoor
