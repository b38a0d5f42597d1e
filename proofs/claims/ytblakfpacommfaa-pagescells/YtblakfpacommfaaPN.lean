/-
  pages: keep: the blocks that are unlike, the table of them.
-/
import Derived.Test.YtblakfpacommfaaPL
import Derived.Test.YtblakfpacommfaaPM
import Derived.WideMake
import Derived.Deep.AppendLies
import Derived.Deep.RegionLaw
namespace Go.Proofs.Ytblakfpacommfaa
set_option linter.unusedVariables false
set_option maxRecDepth 20000
open Go.RowKit
theorem wpList_slice50 {ops : Array Oper} {rest : List Oper} {op : Oper} {a : Act} {w : World} {Q : Exit → Act → World → Prop} (hgd : op.guard = none) (x : Operand) (ho : op.op = .buildSlice 50 1 #[(0, x)]) (ds : Array Value) (hx : a.eval x = .agg ds) (hs : ds.size = 256)
    (h : wpList Try.prog ops Q rest (a.put op.dst (.slice (some ⟨w.heap.size, 0, none⟩) 1 1)) (w.alloc (.cells ds 48))) : wpList Try.prog ops Q (op :: rest) a w := by
  refine wpList_plain hgd fun _ hK => ?_
  unfold Oper.wp execOp
  have hm : (#[((0 : Nat), x)].map fun (i, x) => (i, a.eval x)) = #[(0, .agg ds)] := by simp [hx]
  simp only [ho, Sem.run_bind, hm, slice50 ds hs, Result.andThen_ok]
  exact hK _ _ h
theorem wpList_build53 {ops : Array Oper} {rest : List Oper} {op : Oper} {a : Act} {w : World} {Q : Exit → Act → World → Prop} (hgd : op.guard = none) (x : Operand) (ho : op.op = .build 53 #[(0, x)]) (A : Option Addr) (n q : Nat) (hx : a.eval x = .slice A n q)
    (h : wpList Try.prog ops Q rest (a.put op.dst (.agg (tab0.setIfInBounds 0 (.slice A n q)))) w) : wpList Try.prog ops Q (op :: rest) a w := by
  refine wpList_plain hgd fun _ hK => ?_
  unfold Oper.wp execOp
  have hm : (#[((0 : Nat), x)].map fun (i, x) => (i, a.eval x)) = #[(0, .slice A n q)] := by simp [hx]
  simp only [ho, Sem.run_bind, hm, build53 A n q, Result.andThen_ok]
  exact hK _ _ h
/-- A block is read whole. -/
theorem load48_run {w : World} {b : Nat} {ds : Array Value} (hb : Blk w b 48 ds) (hs : ds.size = 256) : (Instr.loadAt 48 (.pointer (some ⟨b, 0, none⟩))).run Try.prog w = .ok (.agg ds) w :=
  run_loadAt_mid w b 0 48 ds.toList (.array 256 32) (fun j v hv => by rw [Nat.zero_add, hb.cell]; simpa using hv) Try.underlying48 rfl (by rw [Array.length_toList, hs]; kernel_rfl)
theorem load48_list {ops : Array Oper} {rest : List Oper} {op : Oper} {a : Act} {w : World} {Q : Exit → Act → World → Prop} {g : Nat} {cs : Array Value} (hgd : op.guard = none) (x : Operand) (ho : op.op = .load 48 x)
    (hx : a.eval x = .pointer (some ⟨g, 0, none⟩)) (hb : Blk w g 48 cs) (hs : cs.size = 256) (h : wpList Try.prog ops Q rest (a.put op.dst (.agg cs)) w) : wpList Try.prog ops Q (op :: rest) a w :=
  wpList_load_mid hgd 48 x ho g 0 hx cs.toList (.array 256 32) (fun j v hv => by rw [Nat.zero_add, hb.cell]; simpa using hv) Try.underlying48 rfl (by rw [Array.length_toList, hs]; kernel_rfl) h

def upd {α : Type} (f : Nat → α) (i : Nat) (v : α) : Nat → α := fun j => if j = i then v else f j
theorem upd_same {α : Type} (f : Nat → α) (i : Nat) (v : α) : upd f i v i = v := if_pos rfl
theorem upd_other {α : Type} (f : Nat → α) {i j : Nat} (h : j ≠ i) (v : α) : upd f i v j = f j := if_neg h

/-- The numbers of block j of these. -/
def nth (F : List (Nat → Nat)) (j : Nat) : Nat → Nat := F.getD j fun _ => 0
/-- What is kept of the first i blocks. -/
structure KeptF (f : Nat → Nat) (i : Nat) (F : List (Nat → Nat)) (W : Nat → Nat) : Prop where
  pos : 0 < F.length
  zero : ∀ k, k < 256 → nth F 0 k = 0
  small : ∀ j, j < F.length → ∀ k, k < 256 → nth F j k < 65536
  val : ∀ a, a < i → W a < F.length ∧ ∀ k, k < 256 → nth F (W a) k = f (a * 256 + k)
  rest : ∀ a, i ≤ a → W a = 0
  one : ∀ j, j < F.length → j ≠ 0 → ∃ a, a < i ∧ W a = j
  apart : ∀ j j', j < F.length → j' < F.length → (∀ k, k < 256 → nth F j k = nth F j' k) → j = j'
  few : F.length ≤ i + 1
theorem KeptF.start (f : Nat → Nat) : KeptF f 0 [fun _ => 0] fun _ => 0 where
  pos := by simp
  zero k _ := rfl
  small j hj k _ := by
    have : j = 0 := by simpa using hj
    subst this
    exact Nat.zero_lt_succ _
  val a h := absurd h (Nat.not_lt_zero _)
  rest a _ := rfl
  one j hj h := absurd (by simpa using hj) h
  apart j j' h h' _ := by
    have h1 : j = 0 := by simpa using h
    have h2 : j' = 0 := by simpa using h'
    rw [h1, h2]
  few := by simp
section
variable {f : Nat → Nat} {i : Nat} {F : List (Nat → Nat)} {W : Nat → Nat}
theorem KeptF.skip (h : KeptF f i F W) (hf : ∀ k, k < 256 → f (i * 256 + k) = 0) : KeptF f (i + 1) F W where
  pos := h.pos
  zero := h.zero
  small := h.small
  val a ha := by
    by_cases e : a = i
    · subst e
      rw [h.rest a (Nat.le_refl _)]
      exact ⟨h.pos, fun k hk => by rw [h.zero k hk, hf k hk]⟩
    · exact h.val a (by omega)
  rest a ha := h.rest a (by omega)
  one j hj h0 := by
    obtain ⟨a, h1, h2⟩ := h.one j hj h0
    exact ⟨a, by omega, h2⟩
  apart := h.apart
  few := by have := h.few; omega
theorem KeptF.old (h : KeptF f i F W) {j : Nat} (hj : j < F.length) (hf : ∀ k, k < 256 → nth F j k = f (i * 256 + k)) : KeptF f (i + 1) F (upd W i j) where
  pos := h.pos
  zero := h.zero
  small := h.small
  val a ha := by
    by_cases e : a = i
    · subst e
      rw [upd_same]
      exact ⟨hj, hf⟩
    · rw [upd_other _ e]
      exact h.val a (by omega)
  rest a ha := by rw [upd_other _ (by omega)]; exact h.rest a (by omega)
  one j hj h0 := by
    obtain ⟨a, h1, h2⟩ := h.one j hj h0
    exact ⟨a, by omega, by rw [upd_other _ (by omega)]; exact h2⟩
  apart := h.apart
  few := by have := h.few; omega
theorem nth_old (g : Nat → Nat) {j : Nat} (hj : j < F.length) : nth (F ++ [g]) j = nth F j := by
  unfold nth
  rw [List.getD_eq_getElem?_getD, List.getD_eq_getElem?_getD, List.getElem?_append_left hj]
theorem nth_new (g : Nat → Nat) : nth (F ++ [g]) F.length = g := by
  unfold nth
  rw [List.getD_eq_getElem?_getD, List.getElem?_append_right (Nat.le_refl _)]
  simp
theorem KeptF.new_ (h : KeptF f i F W) (hs : ∀ k, k < 256 → f (i * 256 + k) < 65536) (hn : ∀ j, j < F.length → ¬ ∀ k, k < 256 → nth F j k = f (i * 256 + k)) : KeptF f (i + 1) (F ++ [fun k => f (i * 256 + k)]) (upd W i F.length) where
  pos := by simp
  zero k hk := by rw [nth_old _ h.pos]; exact h.zero k hk
  small j hj k hk := by
    rw [List.length_append, List.length_singleton] at hj
    by_cases e : j = F.length
    · subst e; rw [nth_new]; exact hs k hk
    · rw [nth_old _ (by omega)]; exact h.small j (by omega) k hk
  val a ha := by
    by_cases e : a = i
    · subst e
      rw [upd_same, nth_new]
      exact ⟨by simp, fun k _ => rfl⟩
    · rw [upd_other _ e]
      obtain ⟨h1, h2⟩ := h.val a (by omega)
      rw [nth_old _ h1]
      exact ⟨by simp; omega, h2⟩
  rest a ha := by rw [upd_other _ (by omega)]; exact h.rest a (by omega)
  one j hj h0 := by
    rw [List.length_append, List.length_singleton] at hj
    by_cases e : j = F.length
    · exact ⟨i, by omega, by rw [upd_same, e]⟩
    · obtain ⟨a, h1, h2⟩ := h.one j (by omega) h0
      exact ⟨a, by omega, by rw [upd_other _ (by omega)]; exact h2⟩
  apart j j' hj hj' he := by
    rw [List.length_append, List.length_singleton] at hj hj'
    by_cases e : j = F.length <;> by_cases e' : j' = F.length
    · omega
    · subst e
      refine absurd (fun k hk => ?_) (hn j' (by omega))
      rw [← nth_old (fun k => f (i * 256 + k)) (by omega), ← he k hk, nth_new]
    · subst e'
      refine absurd (fun k hk => ?_) (hn j (by omega))
      rw [← nth_old (fun k => f (i * 256 + k)) (by omega), he k hk, nth_new]
    · refine h.apart j j' (by omega) (by omega) fun k hk => ?_
      have := he k hk
      rwa [nth_old _ (by omega), nth_old _ (by omega)] at this
  few := by have := h.few; simp; omega
theorem KeptF.done (h : KeptF f 4352 F W) : PagesOf f F.length (nth F) W :=
  ⟨h.pos, fun a k ha hk => (h.val a ha).2 k hk, fun a ha => (h.val a ha).1, h.zero, fun j hj h0 => by
    obtain ⟨a, h1, h2⟩ := h.one j hj h0
    exact ⟨a, h1, h2⟩, h.apart⟩
end

/-- The cells of the blocks. -/
def blocks (F : List (Nat → Nat)) : List Value := F.flatMap fun f => (blkOf f).toList
theorem blocks_append (F G : List (Nat → Nat)) : blocks (F ++ G) = blocks F ++ blocks G := by simp [blocks]
theorem blocks_length (F : List (Nat → Nat)) : (blocks F).length = F.length * 256 := by
  induction F with
  | nil => rfl
  | cons f F ih =>
    have e : blocks (f :: F) = (blkOf f).toList ++ blocks F := by simp [blocks]
    rw [e, List.length_append, ih, Array.length_toList, blkOf_size, List.length_cons]; omega
theorem blocks_at : ∀ (F : List (Nat → Nat)) (j k : Nat), j < F.length → k < 256 → (blocks F)[j * 256 + k]? = some (.int .u16 (nth F j k : Nat))
  | [], j, k, hj, _ => by simp at hj
  | f :: F, 0, k, _, hk => by
    have e : blocks (f :: F) = (blkOf f).toList ++ blocks F := by simp [blocks]
    rw [e, List.getElem?_append_left (by rw [Array.length_toList, blkOf_size]; omega)]
    have := blkOf_at f hk
    simpa [nth] using this
  | f :: F, j + 1, k, hj, hk => by
    have e : blocks (f :: F) = (blkOf f).toList ++ blocks F := by simp [blocks]
    have ih := blocks_at F j k (by simpa using hj) hk
    rw [e, List.getElem?_append_right (by rw [Array.length_toList, blkOf_size]; omega), Array.length_toList, blkOf_size]
    rw [show (j + 1) * 256 + k - 256 = j * 256 + k by omega, ih]
    simp [nth]
/-- The entries of the map. -/
def known (F : List (Nat → Nat)) : List (Array Value × Nat) := F.zipIdx.map fun p => (blkOf p.1, p.2)
theorem known_more (F : List (Nat → Nat)) (g : Nat → Nat) : known (F ++ [g]) = known F ++ [(blkOf g, F.length)] := by simp [known, List.zipIdx_append]
theorem known_at {F : List (Nat → Nat)} {j v : Nat} {xs : Array Value} (h : (known F)[j]? = some (xs, v)) : v < F.length ∧ blkOf (nth F v) = xs := by
  unfold known at h
  rw [List.getElem?_map] at h
  obtain ⟨p, hp, e⟩ := Option.map_eq_some_iff.1 h
  rw [List.getElem?_zipIdx] at hp
  obtain ⟨q, hq, e2⟩ := Option.map_eq_some_iff.1 hp
  subst e2
  injection e with e1 e2
  simp only [Nat.zero_add] at e2
  subst e2
  obtain ⟨hlt, hge⟩ := List.getElem?_eq_some_iff.1 hq
  refine ⟨hlt, ?_⟩
  rw [← e1]
  unfold nth
  rw [List.getD_eq_getElem?_getD, hq]
  rfl
theorem known_mem {F : List (Nat → Nat)} {j : Nat} (h : j < F.length) : (blkOf (nth F j), j) ∈ known F := by
  unfold known
  refine List.mem_map.2 ⟨(nth F j, j), ?_, rfl⟩
  rw [List.mem_zipIdx_iff_getElem?]
  unfold nth
  rw [List.getD_eq_getElem?_getD, List.getElem?_eq_getElem h]
  rfl

/-- The table lies as it is by now. -/
structure KeptAt (wr : World) (B G M : Nat) (v : Value) (es : Array MapEntry) (c : Nat) (F : List (Nat → Nat)) (W : Nat → Nat) (cs : Array Value) : Prop where
  tab : Blk wr G 53 cs
  size : cs.size = 4353
  head : cs[0]? = some v
  wh : ∀ a, a < 4352 → cs[1 + a]? = some (.int .u16 (W a : Nat))
  own : wr.ownsRow B 48 256 v F.length (blocks F)
  map : wr.heap[M]? = some (.map es c)
  ents : BEnts es (known F)
end Go.Proofs.Ytblakfpacommfaa
