/-
  'append(s, make([]uint32, n)...)' onto a row of the call's own.
-/
import Derived.Test.YthionbkdlmiaoaaNatC
namespace Go.Proofs.Ythionbkdlmiaoaa
set_option linter.unusedVariables false
open Go.RowKit

theorem zeroCells_u32 (n : Nat) : Builtin.zeroCells (Value.int .u32 0).cells n = (List.replicate n (Value.int .u32 0)).toArray := by
  apply Array.ext
  · simp [Builtin.zeroCells, Value.cells]
  · intro i h1 h2
    simp [Builtin.zeroCells, Value.cells, Nat.mod_one]

theorem run_append_zeros (w : World) (base : Nat) (ty : TypeId) (v : Value) (n m : Nat) (xs : List Value) (hown : w.ownsRow base 47 1 v n xs) (hn : n ≤ 1000000) (hm : m ≤ 1000000) (hbase : base ≤ w.heap.size) (h0 : 0 < n ∨ v ≠ .slice none 0 0) :
    ∃ v' w', (Builtin.append_ #[22, 3] ty #[v, .int .i64 m]).run Try.prog w = .ok v' w' ∧ w'.ownsRow base 47 1 v' (n + m) (xs ++ List.replicate m (.int .u32 0)) ∧ w.grownBy w' v.ownBlock := by
  obtain ⟨i, hi, hz, hz1, hz2⟩ := info_parts u32_info
  have ht := Try.underlying22
  have hti := Try.underlying3
  have hlen : (xs ++ List.replicate m (Value.int .u32 0)).length = (n + m) * 1 := by rw [List.length_append, hown.1, List.length_replicate]; omega
  have wm : IntKind.i64.wrap (m : Int) = (m : Int) := by rw [IntKind.wrap_i64]; omega
  have hai : ∀ w, (asInt (.int .i64 (m : Int))).run Try.prog w = .ok (m : Int) w := fun w => by simp [asInt, asIntOf]
  have hm0 : ¬ ((m : Int) < 0) := by omega
  have hmb : ¬ (281474976710656 < (m : Int) * (4 : Int)) := by omega
  have h1 : ∀ u ∈ List.replicate m (Value.int .u32 0), u.oneCell' = true := fun u hu => by rw [List.eq_of_mem_replicate hu]; rfl
  rcases hown.2 with ⟨rfl, rfl⟩ | ⟨g, cap, cur, rfl, hbg, hg, hnc, hcm, hcs, htake⟩
  · simp at h0
  · by_cases hroom : n + m ≤ cap
    · have hst := run_storeCells_at Try.prog g (n * i.size) 47 (List.replicate m (Value.int .u32 0)) 0 cur w hg (by rw [List.length_replicate, hz1, hcs]; omega) h1
      simp only [Nat.add_zero] at hst
      refine ⟨.slice (some ⟨g, 0, none⟩) (n + m) cap, w.setRow g (cur.toList.take (n * i.size) ++ List.replicate m (Value.int .u32 0) ++ cur.toList.drop (n * i.size + (List.replicate m (Value.int .u32 0)).length)).toArray, ?_, ⟨hlen, .inr ⟨g, cap, _, rfl, hbg, setRow_heap w g cur _ 47 _ hg, hroom, hcm, ?_, ?_⟩⟩, ⟨rfl, rfl, rfl, by simp, fun k _ hk => setRow_other w g k _ (fun e => hk (by simp [Value.ownBlock, e]))⟩⟩
      · by_cases hm00 : m = 0
        · subst hm00
          rw [hz1] at hst
          simp only [List.replicate_zero, Int.natCast_zero] at hst hai wm ⊢
          simp [Builtin.append_, run_underlying ht, run_underlying hti, sizeOf, typeInfo, hi, hz1, hz2, hai, wm, hnc, Addr.add_lit]
          simp only [Nat.mul_one, List.append_nil, List.length_nil, Nat.add_zero, List.take_append_drop, Array.toArray_toList] at hst
          rw [hst]; rfl
        · simp [Builtin.append_, run_underlying ht, run_underlying hti, sizeOf, typeInfo, zeroValue, hi, hz, hz1, hz2, hai, wm, hm0, hmb, hroom, Addr.add_lit, hm00, zeroCells_u32]
          rw [hz1] at hst
          simp only [Nat.mul_one, List.length_replicate, List.append_assoc] at hst
          rw [hst]; rfl
      · simp only [List.size_toArray, List.length_append, List.length_take, List.length_drop, Array.length_toList, List.length_replicate, hz1, hcs]
        omega
      · rw [hz1, htake, ← hlen]
        exact List.take_left
    · have holds : ∀ j u, xs[j]? = some u → w.cell? ((⟨g, 0, none⟩ : Addr).add j) = some u := hown.cells (g := g) rfl
      have hnr : ¬ (n + m ≤ cap) := by omega
      have h63' : ¬ (9223372036854775807 < ((n : Int) + (m : Int))) := by omega
      have h48 : Builtin.nextslicecap (n + m) cap * 4 ≤ 281474976710656 := growslice_fits (by omega) (by omega)
      have h48' : ¬ (281474976710656 < Builtin.nextslicecap (n + m) cap * 4) := by omega
      have hm00 : ¬ m = 0 := by omega
      have hfo := run_firstCells_some (P := Try.prog) w.drew i.size n ⟨g, 0, none⟩ n cap xs (by rw [hz1]; exact hown.1) (by simpa using holds)
      rw [hz1] at hfo
      have hge := grownCap_ge w (n + m) cap 47
      have hcm : grownCap w (n + m) cap 47 ≤ maxLen := grownCap_le_maxLen w (n + m) cap 47 (by unfold maxLen; omega)
      refine ⟨.slice (some ⟨w.heap.size, 0, none⟩) (n + m) (grownCap w (n + m) cap 47), w.drew.alloc (.cells (xs.toArray ++ (List.replicate m (Value.int .u32 0)).toArray ++ (List.replicate (grownCap w (n + m) cap 47 - (n + m)) (Value.int .u32 0)).toArray) 47), ?_, ⟨hlen, .inr ⟨w.heap.size, _, _, rfl, hbase, heap_alloc_new w.drew _, hge, hcm, ?_, ?_⟩⟩, ⟨rfl, rfl, rfl, by simp, fun k hk _ => Below.heap_alloc w.drew _ k hk⟩⟩
      · simp [Builtin.append_, run_underlying ht, run_underlying hti, sizeOf, typeInfo, zeroValue, hi, hz, hz1, hz2, hai, wm, hm0, hmb, hnr, h63', h48', Question.forced, hfo, newRow, grownCap, hm00, zeroCells_u32]
      · have := hown.1
        simp only [Array.size_append, List.size_toArray, List.length_replicate]
        omega
      · simp only [Array.toList_append, List.append_assoc]
        rw [← List.append_assoc, ← hlen]
        exact List.take_left
theorem wpList_append_zeros (w : World) {ops : Array Oper} {rest : List Oper} {o : Oper} {a : Act} {Q : Exit → Act → World → Prop} (hgd : o.guard = none) (s x : Operand)
    (ho : o.op = .call { callee := .builtin .append, args := #[s, x], argTypes := #[22, 3] }) (base : Nat) (v : Value) (n m : Nat) (xs : List Value) (X : Int) (hs : a.eval s = v) (hx : a.eval x = .int .i64 X) (hX : X = (m : Int))
    (hown : w.ownsRow base 47 1 v n xs) (hn : n ≤ 1000000) (hm : m ≤ 1000000) (hbase : base ≤ w.heap.size) (h0 : 0 < n ∨ v ≠ .slice none 0 0)
    (h : ∀ v' w', w'.ownsRow base 47 1 v' (n + m) (xs ++ List.replicate m (.int .u32 0)) → w.grownBy w' v.ownBlock → wpList Try.prog ops Q rest (a.put o.dst v') w') : wpList Try.prog ops Q (o :: rest) a w := by
  subst hX
  refine wpList_plain hgd fun _ hK => ?_
  obtain ⟨v', w', hr, h2, h3⟩ := run_append_zeros w base o.type v n m xs hown hn hm hbase h0
  unfold Oper.wp execOp
  simp only [ho, resolve, invoke, builtin, Sem.run_bind, Sem.run_pure, Result.andThen_ok, List.map_toArray, List.map_cons, List.map_nil, hs, hx, hr]
  exact hK _ _ (h v' w' h2 h3)

/-- The slice lies in a block from number B on. -/
def ArrF (B : Nat) (t : TypeId) (k : IntKind) (w : World) (A : Option Addr) (l : List Nat) : Prop :=
  l ≠ [] → ∃ g o cs, A = some ⟨g, o, none⟩ ∧ B ≤ g ∧ Blk w g t cs ∧ ∀ i, i < l.length → cs[o + i]? = some (.int k (l.getD i 0 : Nat))

section
variable {B : Nat} {t : TypeId} {k : IntKind} {w w' : World} {A : Option Addr} {l : List Nat}
theorem ArrF.empty : ArrF B t k w A [] := fun h => absurd rfl h
theorem ArrF.arr (h : ArrF B t k w A l) : Arr t k w A l := fun hn => by
  obtain ⟨g, o, cs, e, _, hb, hc⟩ := h hn
  exact ⟨g, o, cs, e, hb, hc⟩
theorem ArrF.below (h : ArrF B t k w A l) (hb : Below w.heap.size w w') : ArrF B t k w' A l := fun hn => by
  obtain ⟨g, o, cs, e, h0, h1, hc⟩ := h hn
  exact ⟨g, o, cs, e, h0, h1.below hb h1.lt, hc⟩
theorem ArrF.alloc (h : ArrF B t k w A l) (o : Obj) : ArrF B t k (w.alloc o) A l := h.below (below_new w o)
theorem ArrF.take (h : ArrF B t k w A l) (n : Nat) : ArrF B t k w A (l.take n) := fun hn => by
  obtain ⟨g, o, cs, e, h0, h1, hc⟩ := h (by intro e; simp [e] at hn)
  refine ⟨g, o, cs, e, h0, h1, fun i hi => ?_⟩
  rw [List.length_take] at hi
  rw [hc i (by omega)]
  simp [List.getD, show i < n by omega]
theorem ArrF.far {g' : Nat} {t' : TypeId} {cs' : Array Value} (h : ArrF B t k w A l) (h' : Blk w g' t' cs') (ht : t ≠ t') (i : Nat) (u : Value) : ArrF B t k (w.setCell ⟨g', i, none⟩ u) A l := fun hn => by
  obtain ⟨g, o, cs, e, h0, h1, hc⟩ := h hn
  exact ⟨g, o, cs, e, h0, h1.far (h1.ne_ h' ht) u, hc⟩
theorem ArrF.off (h : ArrF B t k w A l) {g' : Nat} (hg : g' < B) (i : Nat) (u : Value) : ArrF B t k (w.setCell ⟨g', i, none⟩ u) A l := fun hn => by
  obtain ⟨g, o, cs, e, h0, h1, hc⟩ := h hn
  exact ⟨g, o, cs, e, h0, h1.far (by show g ≠ g'; omega) u, hc⟩
end

/-- A number whose limbs lie in a block from B on. -/
def IsF (B : Nat) (w : World) (v : Value) (k N : Nat) : Prop :=
  ∃ A c l, v = .agg #[.slice A l.length c] ∧ ArrF B 47 .u32 w A l ∧ Norm 4294967296 l ∧ val 4294967296 l = N ∧ l.length ≤ k ∧ l.length ≤ c
section
variable {B : Nat} {w w' : World} {v : Value} {k N : Nat}
theorem IsF.isN (h : IsF B w v k N) : IsN w v k N := by
  obtain ⟨A, c, l, e, h1, h2⟩ := h
  exact ⟨A, c, l, e, h1.arr, h2⟩
theorem IsF.below (h : IsF B w v k N) (hb : Below w.heap.size w w') : IsF B w' v k N := by
  obtain ⟨A, c, l, e, h1, h2⟩ := h
  exact ⟨A, c, l, e, h1.below hb, h2⟩
theorem IsF.shape (h : IsF B w v k N) : ∃ A n c, v = .agg #[.slice A n c] := h.isN.shape
theorem IsF.far {g : Nat} {cs : Array Value} (h : IsF B w v k N) (hb : Blk w g 26 cs) (i : Nat) (u : Value) : IsF B (w.setCell ⟨g, i, none⟩ u) v k N := by
  obtain ⟨A, c, l, e, h1, h2⟩ := h
  exact ⟨A, c, l, e, h1.far hb (by decide) i u, h2⟩
theorem IsF.off (h : IsF B w v k N) {g : Nat} (hg : g < B) (i : Nat) (u : Value) : IsF B (w.setCell ⟨g, i, none⟩ u) v k N := by
  obtain ⟨A, c, l, e, h1, h2⟩ := h
  exact ⟨A, c, l, e, h1.off hg i u, h2⟩
theorem IsF.alloc (h : IsF B w v k N) (o : Obj) : IsF B (w.alloc o) v k N := h.below (below_new w o)
end
def RetF (B k N : Nat) (w : World) (e : Ending) (w' : World) : Prop := ∃ v, e = .returned v ∧ IsF B w' v k N ∧ Below w.heap.size w w'
/-- It answers a row of its own. -/
def RetO (l : List Nat) (w : World) (e : Ending) (w' : World) : Prop := ∃ v, e = .returned v ∧ w'.ownsRow w.heap.size 47 1 v l.length (cellsOf .u32 l) ∧ Below w.heap.size w w'

theorem own_fresh {k : IntKind} {w : World} {base B : Nat} {e : TypeId} {v : Value} {l : List Nat} (hB : B ≤ base) (h : w.ownsRow base e 1 v l.length (cellsOf k l)) :
    ∃ A c, v = .slice A l.length c ∧ ArrF B e k w A l ∧ l.length ≤ c := by
  rcases h.2 with ⟨rfl, hn⟩ | ⟨g, cap, cur, rfl, hb, hh, hnc, hm, hs, hx⟩
  · have : l = [] := List.eq_nil_of_length_eq_zero hn
    subst this
    exact ⟨none, 0, rfl, ArrF.empty, by simp⟩
  · refine ⟨some ⟨g, 0, none⟩, cap, rfl, fun hne => ⟨g, 0, cur, rfl, by omega, hh, fun i hi => ?_⟩, hnc⟩
    have h1 := cellsOf_get k l hi
    rw [← hx, List.getElem?_take, if_pos (by omega)] at h1
    simpa using h1

theorem clone_own (A : Option Addr) (c : Nat) (l : List Nat) (w : World) (hr : Row .u32 w A l) (hn : l.length ≤ 1000000) :
    Calls Try.prog 37 #[.slice A l.length c] w (RetO l w) := by
  obtain ⟨i0, hi0, hz0, hz1, hz2⟩ := info_parts u32_info
  have q22 : ∀ (w : World) (a : Option Addr) (n c n' c' : Nat), (binOp .eql 22 (.slice a n c) (.slice none n' c')).run Try.prog w = .ok (.bool a.isNone) w := fun w a n c n' c' => Lib.run_eql_slice_nil w _ _ a n c n' c' Try.underlying22
  rcases A with _ | ad
  · have hl : l = [] := hr.none_
    subst hl
    go_enter Try.func37, Try.ntmps37
    go_wp2
    go_ret
    exact ⟨_, rfl, World.ownsRow_nil _ _ _ _, Below.refl _ _⟩
  · go_enter Try.func37, Try.ntmps37
    go_wp2_with (at_builtin; refine wpList_append_own _ rfl (.tmp 5) (.tmp 6) 22 rfl w.heap.size 47 i0 (.int .u32 0) 1 4 Try.underlying22 hi0 hz0 hz1 hz2 rfl (by decide) (.slice (some ⟨w.heap.size, 0, none⟩) 0 0) 0 [] rfl (World.ownsRow_lit w #[] 0 (Nat.le_refl _) (by decide) rfl) ad l.length c (cellsOf .u32 l) rfl (by simp [cellsOf]) (hr.alloc _).src (cellsOf_one _ _) (by unfold maxLen; omega) (by omega) (by simp) ?_; intro v' w' hown hgrow _; simp only [Nat.zero_add, List.nil_append] at hown)
    go_ret
    exact ⟨_, rfl, hown, ((Below.refl _ _).alloc (Nat.le_refl _) _).grown hgrow (by simp) (by simp [Value.ownBlock])⟩

/-- 'trim': without the noughts at the end. -/
theorem trim_fresh (B : Nat) (A : Option Addr) (c : Nat) (l : List Nat) (w : World) (hr : ArrF B 47 .u32 w A l) (hb : ∀ x ∈ l, x < 4294967296) (hn : l.length ≤ 1000000) (hc : l.length ≤ c) :
    Calls Try.prog 36 #[.slice A l.length c] w (RetF B l.length (val 4294967296 l) w) := by
  go_enter Try.func36, Try.ntmps36
  go_wp2
  go_loop [3] (fun t => ∃ k : Nat, k ≤ l.length ∧ t = .int .i64 k ∧ val 4294967296 (l.take k) = val 4294967296 l) (fun t => (intOf t).toNat)
  case atStart => exact ⟨l.length, Nat.le_refl _, rfl, by rw [List.take_length]⟩
  case round =>
    obtain ⟨k, hk, rfl, hv⟩ := hrel
    have HV := Lib.hid hv
    clear hv
    by_cases hk0 : k = 0
    · subst hk0
      go_wp2
      have hv0 : val 4294967296 l = 0 := by rw [← HV.out]; simp [val]
      rw [hv0]
      exact bodyPost_ret (v := .agg #[.slice none 0 0]) (by simp [results, Try.results36, go_sem]) rfl ⟨_, rfl, ⟨none, 0, [], rfl, ArrF.empty, Norm.nil _, rfl, by simp, by simp⟩, below_new _ _⟩
    · obtain ⟨m, rfl⟩ : ∃ m, k = m + 1 := ⟨k - 1, by omega⟩
      obtain ⟨ad, rfl, hab, hcell⟩ := (hr.alloc (Obj.cells #[Value.slice none 0 0] 26)).arr.row.at_ (i := m) (by omega)
      obtain ⟨x, hx⟩ : ∃ x, x = l.getD m 0 := ⟨_, rfl⟩
      rw [← hx] at hcell
      have HX := Lib.hid hx
      clear hx hk0
      by_cases hz : x = 0
      · subst hz
        go_wp2
        go_round
        case rel => exact ⟨m, by omega, rfl, by rw [← HV.out, val_take_succ _ _ _ (by omega), ← HX.out]; simp⟩
        case measure => simp [intOf]
      · have hz1 : ((x : Int) == 0) = false := by simp; omega
        have hm1 : ((m : Int) + 1 == 0) = false := by simp; omega
        go_wp2
        have hlen : (l.take (m + 1)).length = m + 1 := by rw [List.length_take]; omega
        refine bodyPost_ret (v := .agg #[.slice (some ad) (m + 1) c]) (by simp [results, Try.results36, go_sem]) rfl ⟨_, rfl, ⟨some ad, c, l.take (m + 1), by rw [hlen], (hr.take _).alloc _, norm_take hb (by omega) (by omega) ?_, HV.out, by omega, by omega⟩, below_new _ _⟩
        show l.getD m 0 ≠ 0
        rw [← HX.out]; exact hz

/-- 'nat.Limbs': the number of these digits. -/
theorem limbs_fresh (A : Option Addr) (c : Nat) (l : List Nat) (w : World) (hr : Row .u32 w A l) (hb : ∀ x ∈ l, x < 4294967296) (hn : l.length ≤ 1000000) :
    Calls Try.prog 14 #[.slice A l.length c] w (RetF w.heap.size l.length (val 4294967296 l) w) := by
  go_enter Try.func14, Try.ntmps14
  go_wp2_with fail
  refine (clone_own A c l _ (hr.alloc _) hn).mono ?_
  rintro e w1 ⟨v, rfl, hown, hb1⟩
  obtain ⟨A1, c1, rfl, hr1, hc1⟩ := own_fresh (B := w.heap.size) (by simp) hown
  go_wp2_with fail
  refine (trim_fresh w.heap.size A1 c1 l _ hr1 hb hn hc1).mono ?_
  rintro e w2 ⟨v, rfl, hN2, hb2⟩
  obtain ⟨A2, n2, c2, rfl⟩ := hN2.shape
  have hB := (Blk.over hb1).on hb2
  have hc0 := hB.cell0
  have hf0 := hB.free 0
  have hq := (hB.set0 (.slice A2 n2 c2)).cell0
  go_wp2
  exact bodyPost_ret (v := .agg #[.slice A2 n2 c2]) (by simp [results, Try.results14, go_sem, hq]) rfl ⟨_, rfl, hN2.far hB 0 _, (below_step (below_step (below_new _ _) hb1) hb2).setCell (Nat.le_refl _) _⟩

/-- It answers a row of its own that is not nil. -/
def RetP (l : List Nat) (w : World) (e : Ending) (w' : World) : Prop := ∃ v, e = .returned v ∧ w'.ownsRow w.heap.size 47 1 v l.length (cellsOf .u32 l) ∧ Below w.heap.size w w' ∧ v ≠ .slice none 0 0

/-- 'Few': at most 40 of them, in new memory. -/
theorem few_own (A : Option Addr) (n c : Nat) (l : List Nat) (w : World) (hl : l.length = n) (hr : Row .u32 w A l) (hnc : n ≤ c) :
    Calls Try.prog 13 #[.slice A n c] w (RetP (l.take 40) w) := by
  obtain ⟨i0, hi0, hz0, hz1, hz2⟩ := info_parts u32_info
  rcases A with _ | ad
  · have hl0 : l = [] := hr.none_
    subst hl0
    subst hl
    go_enter Try.func13, Try.ntmps13
    go_wp2
    go_ret
    exact ⟨_, rfl, World.ownsRow_lit w #[] 0 (Nat.le_refl _) (by decide) rfl, below_new _ _, by simp⟩
  · by_cases h40 : 40 < n
    · go_enter Try.func13, Try.ntmps13
      go_wp2_with (at_builtin; refine wpList_append_own _ rfl (.tmp 8) (.tmp 9) 22 rfl w.heap.size 47 i0 (.int .u32 0) 1 4 Try.underlying22 hi0 hz0 hz1 hz2 rfl (by decide) (.slice (some ⟨w.heap.size, 0, none⟩) 0 0) 0 [] rfl (World.ownsRow_lit w #[] 0 (Nat.le_refl _) (by decide) rfl) ad 40 c (cellsOf .u32 (l.take 40)) rfl (by simp [cellsOf]; omega) ((hr.take 40).alloc _).src (cellsOf_one _ _) (by decide) (by decide) (by simp) ?_; intro v' w' hown hgrow hnil; simp only [Nat.zero_add, List.nil_append] at hown)
      go_ret
      have hlen : (l.take 40).length = 40 := by rw [List.length_take]; omega
      exact ⟨_, rfl, by rw [hlen]; exact hown, (below_new _ _).grown hgrow (by simp) (by simp [Value.ownBlock]), fun e => by simpa using hnil.1 e⟩
    · have hlen : l.take 40 = l := List.take_of_length_le (by omega)
      rw [hlen]
      clear hlen
      go_enter Try.func13, Try.ntmps13
      go_wp2_with (at_builtin; refine wpList_append_own _ rfl (.tmp 8) (.tmp 9) 22 rfl w.heap.size 47 i0 (.int .u32 0) 1 4 Try.underlying22 hi0 hz0 hz1 hz2 rfl (by decide) (.slice (some ⟨w.heap.size, 0, none⟩) 0 0) 0 [] rfl (World.ownsRow_lit w #[] 0 (Nat.le_refl _) (by decide) rfl) ad n c (cellsOf .u32 l) rfl (by simp [cellsOf]; omega) (hr.alloc _).src (cellsOf_one _ _) (by unfold maxLen; omega) (by omega) (by simp) ?_; intro v' w' hown hgrow hnil; simp only [Nat.zero_add, List.nil_append] at hown)
      go_ret
      exact ⟨_, rfl, by rw [hl]; exact hown, (below_new _ _).grown hgrow (by simp) (by simp [Value.ownBlock]), fun e => by simpa using hnil.1 e⟩

end Go.Proofs.Ythionbkdlmiaoaa
