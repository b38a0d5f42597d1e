/-
  The program's table of a table of the document (Own).
-/
import Derived.Test.YthmdapcieghbbabDoorMV
import Derived.Test.YthmdapcieghbbabDoorMU
import Derived.Test.YthmdapcieghbbabDoorKept
namespace Go.Proofs.YthmdapcieghbbabDoor
set_option linter.unusedVariables false
set_option maxRecDepth 20000
open Go.RowKit

/-- The rows of the document lie at A. -/
structure RefAt (w : World) (A : Option Addr) (R : List Rf) : Prop where
  at_ : R ≠ [] → ∃ g, A = some ⟨g, 0, none⟩ ∧ g < w.heap.size ∧ ∀ i, i < R.length → w.cell? ⟨g, i * 3, none⟩ = some (.int .i64 (R.getD i Rf.nil).code) ∧ w.cell? ⟨g, i * 3 + 1, none⟩ = some (.int .i64 (R.getD i Rf.nil).cls) ∧ w.cell? ⟨g, i * 3 + 2, none⟩ = some (R.getD i Rf.nil).slice
  ok : ∀ r ∈ R, RfOk w r
  few : R.length ≤ 1000000
theorem RefAt.below {w w' : World} {A : Option Addr} {R : List Rf} (h : RefAt w A R) (hb : Below w.heap.size w w') : RefAt w' A R :=
  ⟨fun hn => by
    obtain ⟨g, e, hl, hc⟩ := h.at_ hn
    refine ⟨g, e, Nat.lt_of_lt_of_le hl hb.size, fun i hi => ?_⟩
    obtain ⟨h1, h2, h3⟩ := hc i hi
    exact ⟨(hb.cell (p := ⟨g, _, none⟩) hl).trans h1, (hb.cell (p := ⟨g, _, none⟩) hl).trans h2, (hb.cell (p := ⟨g, _, none⟩) hl).trans h3⟩, fun r hr => (h.ok r hr).below hb, h.few⟩
theorem rfD_mem {R : List Rf} {i : Nat} (hi : i < R.length) : R.getD i Rf.nil ∈ R := by
  rw [List.getD_eq_getElem?_getD, List.getElem?_eq_getElem hi]
  exact List.getElem_mem hi

/-- The cells of rows. -/
def rcells : List Rw → List Value
  | [] => []
  | r :: t => .int .i32 r.code :: .int .i64 r.cls :: r.slice :: rcells t
theorem rcells_length (T : List Rw) : (rcells T).length = T.length * 3 := by
  induction T with
  | nil => rfl
  | cons r t ih => simp only [rcells, List.length_cons, ih]; omega
theorem rcells_append (T U : List Rw) : rcells (T ++ U) = rcells T ++ rcells U := by
  induction T with
  | nil => rfl
  | cons r t ih => simp [rcells, ih]
theorem rcells_get : ∀ (T : List Rw) (i : Nat), i < T.length → (rcells T)[i * 3]? = some (.int .i32 (T.getD i Rw.nil).code) ∧ (rcells T)[i * 3 + 1]? = some (.int .i64 (T.getD i Rw.nil).cls) ∧ (rcells T)[i * 3 + 2]? = some (T.getD i Rw.nil).slice
  | [], i, h => by simp at h
  | r :: t, 0, h => by simp [rcells]
  | r :: t, i + 1, h => by
    obtain ⟨h1, h2, h3⟩ := rcells_get t i (by simpa using h)
    have e : (i + 1) * 3 = i * 3 + 3 := by omega
    rw [e]
    simp only [rcells, List.getD_cons_succ]
    exact ⟨by simpa using h1, by simpa using h2, by simpa using h3⟩
theorem rcells_one (T : List Rw) : ∀ u ∈ rcells T, u.oneCell' = true := by
  induction T with
  | nil => intro u hu; simp [rcells] at hu
  | cons r t ih =>
    intro u hu
    simp only [rcells, List.mem_cons] at hu
    rcases hu with rfl | rfl | rfl | hu
    · rfl
    · rfl
    · rfl
    · exact ih u hu
theorem own_base {w : World} {B B' n s : Nat} {e : TypeId} {v : Value} {xs : List Value} (h : w.ownsRow B e s v n xs) (hB : B' ≤ B) : w.ownsRow B' e s v n xs := by
  obtain ⟨h1, h2⟩ := h
  refine ⟨h1, ?_⟩
  rcases h2 with h2 | ⟨g, cap, cur, hv, hg, r⟩
  · exact .inl h2
  · exact .inr ⟨g, cap, cur, hv, by omega, r⟩
/-- Rows of two types lie apart. -/
theorem own_two {w : World} {B B' n n' s s' : Nat} {e e' : TypeId} {v v' : Value} {xs xs' : List Value} (h : w.ownsRow B e s v n xs) (h' : w.ownsRow B' e' s' v' n' xs') (hne : e ≠ e') : ∀ k, v.ownBlock = some k → v'.ownBlock ≠ some k := by
  intro k hk hk'
  rcases h'.2 with ⟨rfl, _⟩ | ⟨g, cap, cur, rfl, _, hh, _⟩
  · simp [Value.ownBlock] at hk'
  · simp [Value.ownBlock] at hk'
    subst hk'
    exact own_ne h (show Blk w g e' cur from hh) hne hk
/-- A table of one's own is a table. -/
theorem own_tab {w : World} {B : Nat} {v : Value} {T : List Rw} (h : w.ownsRow B 45 3 v T.length (rcells T)) : ∃ A q, v = .slice A T.length q ∧ TabAt w A T := by
  obtain ⟨A, q, rfl⟩ := own_len' h
  refine ⟨A, q, rfl, fun hn => ?_⟩
  rcases h.2 with ⟨_, e⟩ | ⟨g, cap, cur, e, hg, hh, a1, a2, a3, a4⟩
  · exact absurd (List.eq_nil_of_length_eq_zero e) hn
  · injection e with e _ _
    refine ⟨g, e, (show Blk w g 45 cur from hh).lt, fun i hi => ?_⟩
    have hget : ∀ j, j < T.length * 3 → cur[j]? = (rcells T)[j]? := fun j hj => by
      rw [← a4, List.getElem?_take, if_pos hj]
      simp
    obtain ⟨h1, h2, h3⟩ := rcells_get T i hi
    have hb : Blk w g 45 cur := hh
    exact ⟨(hb.cell _).trans ((hget _ (by omega)).trans h1), (hb.cell _).trans ((hget _ (by omega)).trans h2), (hb.cell _).trans ((hget _ (by omega)).trans h3)⟩
theorem row_info : (Tryd.prog.info? 45).map (fun i => (i.zero, i.size, i.bytes)) = some (some (.agg #[.int .i32 0, .int .i64 0, .slice none 0 0]), 3, 40) := by kernel_rfl

/-- Blocks of other types than a table's stay. -/
def Keep34 (w w' : World) : Prop := w.heap.size ≤ w'.heap.size ∧ ∀ (g : Nat) (t : TypeId) (cs : Array Value), t ≠ 34 → Blk w g t cs → Blk w' g t cs
theorem Keep34.set_ {w w' : World} (h : Keep34 w w') {g : Nat} {cs : Array Value} (hg : Blk w' g 34 cs) (i : Nat) (u : Value) : Keep34 w (w'.setCell ⟨g, i, none⟩ u) :=
  ⟨by simpa [World.setCell] using h.1, fun g' t' cs' ht hb => (h.2 g' t' cs' ht hb).far ((h.2 g' t' cs' ht hb).ne_ hg ht) u⟩
theorem Keep34.refl (w : World) : Keep34 w w := ⟨Nat.le_refl _, fun _ _ _ _ h => h⟩
theorem own_map {w : World} {B : Nat} {r : Rw} (h : w.ownsRow B 21 1 r.slice r.map.length (cellsI r.map)) (hl : r.map.length ≤ 1000000) : MapAt w r := by
  refine ⟨fun hn => ?_, fun hA => ?_, hl⟩
  · obtain ⟨g, cap, e, h1, h2, h3, h4⟩ := own_cells h (List.length_pos_iff.2 hn)
    unfold Rw.slice at e
    injection e with e _ _
    exact ⟨g, e, h3, fun i hi => (h4 i hi).trans (cellsI_get _ hi)⟩
  · rcases h.2 with ⟨e, _⟩ | ⟨g, cap, cur, e, _⟩
    · unfold Rw.slice at e; injection e
    · unfold Rw.slice at e; rw [hA] at e; cases e
theorem store2 {w : World} {g : Nat} {t : TypeId} {x y : Value} (h : Blk w g t #[x, y]) (a b : Value) :
    (w.cell? ⟨g, 0, none⟩ = some x ∧ w.frozen? ⟨g, 0, none⟩ = false) ∧ ((w.setCell ⟨g, 0, none⟩ a).cell? ⟨g, 1, none⟩ = some y ∧ (w.setCell ⟨g, 0, none⟩ a).frozen? ⟨g, 1, none⟩ = false) ∧ Blk ((w.setCell ⟨g, 0, none⟩ a).setCell ⟨g, 1, none⟩ b) g t #[a, b] := by
  have h5 : Blk (w.setCell ⟨g, 0, none⟩ a) g t #[a, y] := h.set_ 0 a
  exact ⟨⟨(h.cell 0).trans rfl, h.free 0⟩, ⟨(h5.cell 1).trans rfl, h5.free 1⟩, h5.set_ 1 b⟩

set_option maxHeartbeats 4000000 in
theorem own_any (A XA : Option Addr) (q xc : Nat) (R : List Rf) (X : List Int) (E : Int → Bool) (w : World) (hr : RefAt w A R) (hx : RowJ w XA X) (hxi : ∀ x ∈ X, In32 x) (hxl : X.length ≤ 1000000)
    (HCH : ∀ (W : World) (u : Value), W.ownsRow w.heap.size 21 1 u X.length (cellsI X) → (X = [] → u = .slice none 0 0) → Calls Tryd.prog 11 #[u] W (fun e w' => ∃ B b r, e = .returned (.agg #[.slice B b r]) ∧ (∀ W', Keep34 w' W' → HasAt B b r E W') ∧ Below W.heap.size W w')) :
    Calls Tryd.prog 5 #[.agg #[.slice A R.length q, .slice XA X.length xc]] w (fun e w' => ∃ A' q' T B b r, e = .returned (.agg #[.slice A' T.length q', .slice B b r]) ∧ TabOk w' A' T ∧ HasAt B b r E w' ∧ T.map (fun r => (r.code, r.cls, r.map)) = R.map (fun r => (r.code, r.cls, r.map)) ∧ Below w.heap.size w w') := by
  have HR := Lib.hid fun W (hb : Below w.heap.size w W) => hr.below hb
  have HX := Lib.hid fun W (hb : Below w.heap.size w W) => hx.below hb
  have HXI := Lib.hid hxi
  have HROK := Lib.hid hr.ok
  have HC := Lib.hid HCH
  have hfew := hr.few
  clear hr hx hxi HCH
  obtain ⟨n, hn⟩ : ∃ n, R.length = n := ⟨_, rfl⟩
  have HN := Lib.hid hn
  obtain ⟨xn, hxn⟩ : ∃ n, X.length = n := ⟨_, rfl⟩
  have HXN := Lib.hid hxn
  rw [hn] at hfew ⊢
  rw [hxn] at hxl ⊢
  clear hn hxn
  have hX := ((Blk.new w 26 #[.slice A n q, .slice XA xn xc]).alloc (.cells #[.slice none 0 0, .slice none 0 0] 34)).alloc (.cells #[.slice none 0 0, .slice none 0 0] 34)
  have hR := (blk_two w (.cells #[.slice A n q, .slice XA xn xc] 26) 34 #[.slice none 0 0, .slice none 0 0]).alloc (.cells #[.slice none 0 0, .slice none 0 0] 34)
  have hO := blk_three w (.cells #[.slice A n q, .slice XA xn xc] 26) (.cells #[.slice none 0 0, .slice none 0 0] 34) 34 #[.slice none 0 0, .slice none 0 0]
  have bW := below_step (below_step (below_new w (.cells #[.slice A n q, .slice XA xn xc] 26)) (below_new _ (.cells #[.slice none 0 0, .slice none 0 0] 34))) (below_new _ (.cells #[.slice none 0 0, .slice none 0 0] 34))
  have x0 := (hX.cell 0).trans rfl
  have x1 := (hX.cell 1).trans rfl
  obtain ⟨i0, hi0', hz0, hz1, hz2⟩ := info_parts rune_info
  obtain ⟨i1, hi1', hy0, hy1, hy2⟩ := info_parts row_info
  go_enter Tryd.func5, Tryd.ntmps5
  go_wp2
  generalize ((w.alloc (.cells #[.slice A n q, .slice XA xn xc] 26)).alloc (.cells #[.slice none 0 0, .slice none 0 0] 34)).alloc (.cells #[.slice none 0 0, .slice none 0 0] 34) = V at *
  clear x0 x1
  go_loopw [12] (fun s wr => ∃ (k : Nat) (v : Value) (T : List Rw), s = .int .i64 (k : Int) ∧ k ≤ n ∧ T.length = k ∧ T.map (fun r => (r.code, r.cls, r.map)) = (R.take k).map (fun r => (r.code, r.cls, r.map)) ∧ wr.ownsRow w.heap.size 45 3 v k (rcells T) ∧ (∀ r ∈ T, wr.ownsRow w.heap.size 21 1 r.slice r.map.length (cellsI r.map)) ∧
      Blk wr (w.heap.size + 1 + 1) 34 #[v, .slice none 0 0] ∧ Blk wr (w.heap.size + 1) 34 #[.slice none 0 0, .slice none 0 0] ∧ Blk wr w.heap.size 26 #[.slice A n q, .slice XA xn xc] ∧ Below w.heap.size w wr) (fun s _ => n - (intOf s).toNat)
  case atStart => exact ⟨0, _, [], rfl, by omega, rfl, rfl, World.ownsRow_nil _ _ _ _, by simp, hO, hR, hX, bW⟩
  case round =>
    obtain ⟨k, v, T, rfl, hk0, hTl, hTm, hv, hrows, hO1, hR1, hX1, hb⟩ := hrel
    clear hO hR hX bW
    by_cases hk : k < n
    · obtain ⟨g, rfl, hg, hc⟩ := (HR.out _ hb).at_ (by intro e; have := HN.out; rw [e] at this; simp at this; omega)
      obtain ⟨c1, c2, c3⟩ := hc k (by rw [HN.out]; exact hk)
      have hrk := (HR.out _ hb).ok _ (rfD_mem (i := k) (by rw [HN.out]; exact hk))
      have HOW0 := fun W hb => ownRow_any (R.getD k Rf.nil) W ((((HR.out _ hb).ok _ (rfD_mem (i := k) (by rw [HN.out]; exact hk)))))
      have htk : Hid (R.take (k + 1) = R.take k ++ [R.getD k Rf.nil]) := Lib.hid (by rw [List.take_succ_eq_append_getElem (by rw [HN.out]; exact hk), List.getD_eq_getElem?_getD, List.getElem?_eq_getElem (by rw [HN.out]; exact hk)]; rfl)
      clear hc hrk
      generalize R.getD k Rf.nil = rr at *
      unfold Rf.val at HOW0
      unfold Rf.slice at *
      have HOW : Hid (∀ (W : World), Below w.heap.size w W → Calls Tryd.prog 10 #[.agg #[.int .i64 rr.code, .int .i64 rr.cls, .slice rr.at_ rr.map.length rr.cap]] W _) := Lib.hid HOW0
      clear HOW0
      have HCD := Lib.hid (show (rr.code, rr.cls, rr.map) = (rr.code, rr.cls, rr.map) from rfl)
      obtain ⟨rc, hrc⟩ : ∃ x, rr.code = x := ⟨_, rfl⟩
      obtain ⟨rk, hrk⟩ : ∃ x, rr.cls = x := ⟨_, rfl⟩
      obtain ⟨rn, hrn⟩ : ∃ x, rr.map.length = x := ⟨_, rfl⟩
      rw [hrc] at c1 HOW
      rw [hrk] at c2 HOW
      rw [hrn] at c3 HOW
      generalize rr.at_ = ra at *
      generalize rr.cap = rq at *
      have HRC := Lib.hid hrc
      have HRK := Lib.hid hrk
      have HRN := Lib.hid hrn
      clear hrc hrk hrn
      obtain ⟨vA, vc, rfl⟩ := own_len' hv
      have hB := Blk.new wr 28 #[.int .i64 rc, .int .i64 rk, .slice ra rn rq]
      have bY := below_new wr (.cells #[.int .i64 rc, .int .i64 rk, .slice ra rn rq] 28)
      have hO2 := hO1.on bY
      have hR2 := hR1.on bY
      have hX2 := hX1.on bY
      have hv2 := own_on hv bY
      have hrows2 := fun r hr => own_on (hrows r hr) bY
      have b2 := below_step hb bY
      go_upto_region 5 with fail
      generalize wr.alloc (.cells #[.int .i64 rc, .int .i64 rk, .slice ra rn rq] 28) = Y at *
      generalize wr.heap.size = gb at *
      clear c1 c2 c3 hO1 hR1 hX1 hv hrows bY
      have hSk : ∀ W, Below Y.heap.size Y W → W.cell? ⟨w.heap.size + 1 + 1, 0, none⟩ = some (.slice vA k vc) ∧ W.cell? ⟨gb, 0, none⟩ = some (.int .i64 rc) ∧ W.cell? ⟨gb, 1, none⟩ = some (.int .i64 rk) ∧ W.cell? ⟨gb, 2, none⟩ = some (.slice ra rn rq) := fun W h =>
        ⟨((hO2.on h).cell 0).trans rfl, (hB.on h).cells3.1, (hB.on h).cells3.2.1, (hB.on h).cells3.2.2⟩
      refine wp_region_kept (fun w' => w'.cell? ⟨w.heap.size + 1 + 1, 0, none⟩ = some (.slice vA k vc) ∧ w'.cell? ⟨gb, 0, none⟩ = some (.int .i64 rc) ∧ w'.cell? ⟨gb, 1, none⟩ = some (.int .i64 rk) ∧ w'.cell? ⟨gb, 2, none⟩ = some (.slice ra rn rq)) (fun i => decide (7 ≤ i)) (by kernel_rfl) (hSk _ (below_drew _)) (fun hH => ?_)
      refine wpAnyK_take (i := 0) (v := .pointer (some ⟨w.heap.size + 1 + 1, 0, none⟩)) rfl (by kernel_rfl) (by kernel_rfl) (by kernel_rfl) (by kernel_rfl) (by kernel_rfl) (fun _ _ _ h => h) (Or.inl ⟨by rfl, ?_⟩) hH ?_
      · rintro w' ⟨k1, k2, k3, k4⟩; go_simp
      simp only [Act.put]
      refine wpAnyK_take (i := 1) (v := .slice vA k vc) rfl (by kernel_rfl) (by kernel_rfl) (by kernel_rfl) (by kernel_rfl) (by kernel_rfl) (fun _ _ _ h => h) (Or.inl ⟨by rfl, ?_⟩) hH ?_
      · rintro w' ⟨k1, k2, k3, k4⟩; go_simp
      simp only [Act.put]
      refine wpAnyK_take (i := 2) (v := .agg #[.int .i64 rc, .int .i64 rk, .slice ra rn rq]) rfl (by kernel_rfl) (by kernel_rfl) (by kernel_rfl) (by kernel_rfl) (by kernel_rfl) (fun _ _ _ h => h) (Or.inl ⟨by rfl, ?_⟩) hH ?_
      · rintro w' ⟨k1, k2, k3, k4⟩; go_simp
      simp only [Act.put]
      refine wpAnyK_one (i := 3) (by kernel_rfl) rfl (fun Kk hKk => ?_)
      go_simp
      refine (HOW.out _ (below_step b2 (below_drew _))).mono ?_
      rintro e z1 ⟨rw_, rfl, e1, e2, e3, hm, ho, y1⟩
      have yd := below_step (below_drew Y) y1
      unfold Rw.val
      unfold Rw.slice at *
      go_wp2_with fail
      refine hKk.out _ _ (hSk _ yd) (fun _ => ?_)
      clear hKk Kk
      refine wpAnyK_one (i := 4) (by kernel_rfl) rfl (fun Kk hKk => ?_)
      go_simp
      have hO3 := hO2.on yd
      have hR3 := hR2.on yd
      have hX3 := hX2.on yd
      have hv3 := (own_on hv2 yd).alloc (.cells #[.int .i32 rc, .int .i64 rk, .slice rw_.at_ rr.map.length rw_.cap] 45)
      have hN := Blk.new z1 45 #[.int .i32 rc, .int .i64 rk, .slice rw_.at_ rr.map.length rw_.cap]
      have b3 := below_step b2 (below_step yd (below_new z1 (.cells #[.int .i32 rc, .int .i64 rk, .slice rw_.at_ rr.map.length rw_.cap] 45)))
      refine hKk.out _ _ (hSk _ (below_step yd (below_new _ _))) (fun _ => ?_)
      clear hKk Kk
      refine wpAnyK_one (i := 5) (by kernel_rfl) rfl (fun Kk hKk => ?_)
      rw [if_pos (by rfl)]
      have h63 : k + 1 ≤ maxLen := by unfold maxLen; omega
      have hby : (k + 1) * 40 ≤ 140737488355328 := by omega
      refine wp_append_lies _ (.tmp 17) (.tmp 20) 29 (by rfl) w.heap.size 45 i1 _ 3 40 Tryd.underlying29 hi1' hy0 hy1 hy2 rfl (by omega) (.slice vA k vc) k (rcells T) (by rfl) hv3 ⟨z1.heap.size, 0, none⟩ 1 1 [.int .i32 rc, .int .i64 rk, .slice rw_.at_ rr.map.length rw_.cap] (by rfl) (by rfl) (World.news_of_block (cs := #[.int .i32 rc, .int .i64 rk, .slice rw_.at_ rr.map.length rw_.cap]) (t := 45) (fr := (0, 0)) (heap_alloc_new z1 _)) (by simp [Value.oneCell']) (by omega) h63 hby (by have := b3.size; exact this) (z1.heap.size + 1) (by simp) ?_
      intro gg cap z3 hown hgrow hat hlt
      have hO4 := (hO3.alloc (.cells #[.int .i32 rc, .int .i64 rk, .slice rw_.at_ rr.map.length rw_.cap] 45)).grown hgrow (own_ne hv3 (hO3.alloc _) (by decide))
      have hR4 := (hR3.alloc (.cells #[.int .i32 rc, .int .i64 rk, .slice rw_.at_ rr.map.length rw_.cap] 45)).grown hgrow (own_ne hv3 (hR3.alloc _) (by decide))
      have hX4 := (hX3.alloc (.cells #[.int .i32 rc, .int .i64 rk, .slice rw_.at_ rr.map.length rw_.cap] 45)).grown hgrow (own_ne hv3 (hX3.alloc _) (by decide))
      have hB3 := (hB.on yd).alloc (.cells #[.int .i32 rc, .int .i64 rk, .slice rw_.at_ rr.map.length rw_.cap] 45)
      have hB4 := hB3.grown hgrow (own_ne hv3 hB3 (by decide))
      have hrows4 : ∀ r ∈ T, z3.ownsRow w.heap.size 21 1 r.slice r.map.length (cellsI r.map) := fun r hr =>
        own_grown ((own_on (hrows2 r hr) yd).alloc _) hgrow (fun kk h e => own_two ((own_on (hrows2 r hr) yd).alloc _) hv3 (by decide) kk h e)
      have ho4 : z3.ownsRow w.heap.size 21 1 rw_.slice rw_.map.length (cellsI rw_.map) := own_base (own_grown (ho.alloc _) hgrow (fun kk h e => own_two (ho.alloc _) hv3 (by decide) kk h e)) (by have := b2.size; simp; omega)
      have b4 := b3.grown hgrow b3.size (fun kk h => (hv3.lt kk h).1)
      refine hKk.out _ _ ⟨(hO4.cell 0).trans rfl, hB4.cells3.1, hB4.cells3.2.1, hB4.cells3.2.2⟩ (fun _ => ?_)
      clear hKk Kk
      refine wpAnyK_one (i := 6) (by kernel_rfl) rfl (fun Kk hKk => ?_)
      go_simp
      refine hKk.out _ _ ⟨(hO4.cell 0).trans rfl, hB4.cells3.1, hB4.cells3.2.1, hB4.cells3.2.2⟩ (fun _ => ?_)
      clear hKk Kk
      have o0 := (hO4.cell 0).trans rfl
      have fo := hO4.free 0
      refine wpAnyK_last (i := 7) (by kernel_rfl) rfl rfl (fun Kk hKk => ?_)
      go_simp
      refine hKk.out _ _ ?_
      clear hKk Kk
      refine wpAnyK_done (by kernel_rfl) ?_ _
      have hcel : [Value.int .i32 rc, Value.int .i64 rk, Value.slice rw_.at_ rr.map.length rw_.cap] = rcells [rw_] := by
        unfold rcells Rw.slice rcells
        rw [e1, e2, e3]
      have HCEL := Lib.hid hcel
      have HTM : Hid ((T ++ [rw_]).map (fun r => (r.code, r.cls, r.map)) = (R.take (k + 1)).map (fun r => (r.code, r.cls, r.map))) := Lib.hid (by
        rw [htk.out, List.map_append, List.map_append, hTm]
        simp only [List.map_cons, List.map_nil]
        rw [e1, e2, e3, HRC.out, HRK.out])
      clear hcel e1 e2 e3 hTm
      go_wp2
      go_roundw
      case rel =>
        refine ⟨k + 1, _, T ++ [rw_], by go_num, by omega, by simp [hTl], HTM.out, ?_, fun r hr => ?_, hO4.set_ 0 _, hR4.far (by simp) _, hX4.far (show w.heap.size ≠ w.heap.size + 1 + 1 by omega) _, b4.setCell (p := ⟨w.heap.size + 1 + 1, 0, none⟩) (by simp; omega) _⟩
        · rw [rcells_append, ← HCEL.out]
          exact ownsRow_setCell_other hown (own_ne hown hO4 (by decide)) _
        · simp at hr
          rcases hr with hr | rfl
          · exact ownsRow_setCell_other (hrows4 r hr) (own_ne (hrows4 r hr) hO4 (by decide)) _
          · exact ownsRow_setCell_other ho4 (own_ne ho4 hO4 (by decide)) _
      case measure => simp [intOf]; omega
    · obtain rfl : k = n := by omega
      have hTR : Hid (T.map (fun r => (r.code, r.cls, r.map)) = R.map (fun r => (r.code, r.cls, r.map))) := Lib.hid (by rw [hTm, ← HN.out, List.take_length])
      clear hTm
      obtain ⟨tA, tc, rfl⟩ := own_len' hv
      have x0 := (hX1.cell 0).trans rfl
      have x1 := (hX1.cell 1).trans rfl
      go_wp2
      clear x0 x1
      go_loopw [27, 6] (fun s u W2 => ∃ (j : Nat), s = .int .i64 (j : Int) ∧ j ≤ xn ∧ W2.ownsRow w.heap.size 21 1 u j (cellsI (X.take j)) ∧ (j = 0 → u = .slice none 0 0) ∧ W2.ownsRow w.heap.size 45 3 (.slice tA k tc) k (rcells T) ∧ (∀ r ∈ T, W2.ownsRow w.heap.size 21 1 r.slice r.map.length (cellsI r.map)) ∧
          (∀ r ∈ T, ∀ kk, u.ownBlock = some kk → r.slice.ownBlock ≠ some kk) ∧
          Blk W2 (w.heap.size + 1 + 1) 34 #[.slice tA k tc, .slice none 0 0] ∧ Blk W2 (w.heap.size + 1) 34 #[.slice none 0 0, .slice none 0 0] ∧ Below w.heap.size w W2) (fun s _ _ => xn - (intOf s).toNat)
      case atStart => exact ⟨0, rfl, by omega, own_nil _ _ _, fun _ => rfl, hv, hrows, fun r hr kk h => by simp [Value.ownBlock] at h, hO1, hR1, hb⟩
      case round =>
        obtain ⟨j, rfl, hj0, hu, hunil, hv2, hrows2, hap, hO2, hR2, hb2⟩ := hrel
        clear hv hrows hO1 hR1 hb hX1
        generalize wr = W2 at *
        by_cases hj : j < xn
        · obtain ⟨uA, uc, rfl⟩ := own_len' hu
          obtain ⟨g, rfl, hg, hc⟩ := HX.out _ hb2 (by intro e; have := HXN.out; rw [e] at this; simp at this; omega)
          have c1 := hc j (by rw [HXN.out]; exact hj)
          have hin := HXI.out (X.getD j 0) (by rw [List.getD_eq_getElem?_getD, List.getElem?_eq_getElem (by rw [HXN.out]; exact hj)]; exact List.getElem_mem _)
          have htk : Hid (X.take (j + 1) = X.take j ++ [X.getD j 0]) := Lib.hid (by rw [List.take_succ_eq_append_getElem (by rw [HXN.out]; exact hj), List.getD_eq_getElem?_getD, List.getElem?_eq_getElem (by rw [HXN.out]; exact hj)]; rfl)
          obtain ⟨hin1, hin2⟩ := hin
          have hwr : IntKind.i32.wrap (X.getD j 0) = X.getD j 0 := by rw [IntKind.wrap_i32]; omega
          clear hc
          generalize X.getD j 0 = x at *
          generalize X.take j = lj at *
          have hu2 := hu.alloc (.cells #[.int .i32 x] 21)
          have h63 : j + 1 ≤ maxLen := by unfold maxLen; omega
          have hby : (j + 1) * 4 ≤ 140737488355328 := by omega
          have hbase := hb2.size
          go_wp2_with (at_builtin; refine wpList_append_lies _ rfl _ _ _ rfl w.heap.size 21 i0 _ 1 4 Tryd.underlying41 hi0' hz0 hz1 hz2 rfl (by omega) (.slice uA j uc) j (cellsI lj) rfl hu2 ⟨W2.heap.size, 0, none⟩ 1 1 [.int .i32 x] rfl rfl (World.news_of_block (cs := #[.int .i32 x]) (t := 21) (fr := (0, 0)) (heap_alloc_new W2 _)) (by simp [Value.oneCell']) (by omega) h63 hby (by simp; omega) (W2.heap.size + 1) (by simp) ?_; intro gg cap w3 hown3 hgrow hat hlt)
          go_roundw
          case rel =>
            refine ⟨j + 1, by go_num, by omega, ?_, fun h => by omega, own_grown (hv2.alloc _) hgrow (fun kk h e => own_two hu2 (hv2.alloc _) (by decide) kk e h), fun r hr => own_grown ((hrows2 r hr).alloc _) hgrow (fun kk h e => hap r hr kk e h), fun r hr kk hkk e => ?_, (hO2.alloc _).grown hgrow (own_ne hu2 (hO2.alloc _) (by decide)), (hR2.alloc _).grown hgrow (own_ne hu2 (hR2.alloc _) (by decide)), (below_step hb2 (below_new _ _)).grown hgrow (by simp; omega) (fun kk h => (hu2.lt kk h).1)⟩
            · rw [htk.out, cellsI_append]; exact hown3
            · simp [Value.ownBlock] at hkk
              subst hkk
              rcases hat with h | h
              · exact hap r hr _ h e
              · have := ((hrows2 r hr).lt _ e).2; omega
          case measure => simp [intOf]; omega
        · obtain rfl : j = xn := by omega
          have htk : X.take j = X := by rw [← HXN.out, List.take_length]
          rw [htk] at hu
          obtain ⟨uA, uc, rfl⟩ := own_len' hu
          have HCc := Lib.hid (HC.out W2 (.slice uA j uc) (by rw [HXN.out]; exact hu) (fun h => hunil (by rw [← HXN.out, h]; rfl)))
          clear htk hu hunil hap HC
          go_wp2_with fail
          refine HCc.out.mono ?_
          rintro e W3 ⟨B, b, r, rfl, hHas, y3⟩
          have hO3 := hO2.on y3
          have o0 := (hO3.cell 0).trans rfl
          have o1 := (hO3.cell 1).trans rfl
          have fo := hO3.free 1
          have hO4 := hO3.set_ 1 (.slice B b r)
          have p0 := (hO4.cell 0).trans rfl
          have p1 := (hO4.cell 1).trans rfl
          have hR4 := (hR2.on y3).far (p := ⟨w.heap.size + 1 + 1, 1, none⟩) (show w.heap.size + 1 ≠ w.heap.size + 1 + 1 by omega) (.slice B b r)
          obtain ⟨⟨z0, f0⟩, ⟨z1, f1⟩, hZ⟩ := store2 hR4 (.slice tA k tc) (.slice B b r)
          have q0 := (hZ.cell 0).trans rfl
          have q1 := (hZ.cell 1).trans rfl
          have hb3 := below_step hb2 y3
          have hb4 := ((hb3.setCell (p := ⟨w.heap.size + 1 + 1, 1, none⟩) (show w.heap.size ≤ w.heap.size + 1 + 1 by omega) (.slice B b r)).setCell (p := ⟨w.heap.size + 1, 0, none⟩) (show w.heap.size ≤ w.heap.size + 1 by omega) (.slice tA k tc)).setCell (p := ⟨w.heap.size + 1, 1, none⟩) (show w.heap.size ≤ w.heap.size + 1 by omega) (.slice B b r)
          have hR5 : Blk _ (w.heap.size + 1) 34 _ := hR4.set_ 0 (.slice tA k tc)
          have hK : Keep34 W3 _ := (((Keep34.refl W3).set_ hO3 1 (.slice B b r)).set_ hR4 0 (.slice tA k tc)).set_ hR5 1 (.slice B b r)
          have st : ∀ {n s : Nat} {e : TypeId} {v : Value} {xs : List Value}, e ≠ 34 → W3.ownsRow w.heap.size e s v n xs → (((W3.setCell ⟨w.heap.size + 1 + 1, 1, none⟩ (.slice B b r)).setCell ⟨w.heap.size + 1, 0, none⟩ (.slice tA k tc)).setCell ⟨w.heap.size + 1, 1, none⟩ (.slice B b r)).ownsRow w.heap.size e s v n xs := fun he h =>
            have h1 := ownsRow_setCell_other h (own_ne h hO3 he) (.slice B b r)
            have h2 := ownsRow_setCell_other h1 (own_ne h1 hR4 he) (.slice tA k tc)
            ownsRow_setCell_other h2 (own_ne h2 hR5 he) (.slice B b r)
          have hv3 := st (by decide) (own_on hv2 y3)
          obtain ⟨A', q', e1, hTab⟩ := own_tab (T := T) (by rw [hTl]; exact hv3)
          rw [hTl] at e1
          injection e1 with e1 _ e2
          subst e1 e2
          have hlenT : ∀ r ∈ T, ∃ r' ∈ R, (r.code, r.cls, r.map) = (r'.code, r'.cls, r'.map) := fun r hr => by
            have : (r.code, r.cls, r.map) ∈ T.map (fun r => (r.code, r.cls, r.map)) := List.mem_map.2 ⟨r, hr, rfl⟩
            rw [hTR.out] at this
            obtain ⟨r', h1, h2⟩ := List.mem_map.1 this
            exact ⟨r', h1, h2.symm⟩
          go_wp2
          refine bodyPost_ret (v := .agg #[.slice tA k tc, .slice B b r]) (by simp [results, Tryd.results5, go_sem, q0, q1]) rfl ⟨tA, tc, T, B, b, r, by rw [hTl], ⟨hTab, fun x hx => ?_, fun x hx => ?_, by omega⟩, hHas _ hK, hTR.out, hb4⟩
          · obtain ⟨x', h1, h2⟩ := hlenT x hx
            simp only [Prod.mk.injEq] at h2
            exact own_map (st (by decide) (own_on (hrows2 x hx) y3)) (by rw [h2.2.2]; exact (HROK.out x' h1).len)
          · obtain ⟨x', h1, h2⟩ := hlenT x hx
            simp only [Prod.mk.injEq] at h2
            exact ⟨by rw [h2.1]; exact (HROK.out x' h1).code, by rw [h2.2.2]; exact (HROK.out x' h1).map⟩
end Go.Proofs.YthmdapcieghbbabDoor
