/-
  cpset: appendChars.
-/
import Derived.Test.YtccbofaefpbhlaaDoorSetE
namespace Go.Proofs.YtccbofaefpbhlaaDoor
set_option linter.unusedVariables false
set_option maxRecDepth 20000
open Go.RowKit

section
variable {P : Program}
/-- An append to a row of one's own, and where the new row lies. -/
theorem run_append_where (w : World) (base : Nat) (t ty e : TypeId) (i : TypeInfo) (z : Value) (size bytes : Nat) (ht : P.underlying t = some (.slice e)) (hi : P.info? e = some i) (hz : i.zero = some z)
    (hsize : i.size = size) (hby : i.bytes = bytes) (hzs : z.cells.size = size) (hsz : 0 < size)
    (v : Value) (n : Nat) (xs : List Value) (hown : w.ownsRow base e size v n xs)
    (a : Addr) (m c : Nat) (news : List Value) (hl : news.length = m * size) (hnews : ∀ j u, news[j]? = some u → w.cell? (a.add j) = some u) (h1 : ∀ u ∈ news, u.oneCell' = true)
    (h63 : n + m ≤ maxLen) (hbytes : (n + m) * bytes ≤ 140737488355328) (hbase : base ≤ w.heap.size) :
    ∃ v' w', (Builtin.append_ #[t, t] ty #[v, .slice (some a) m c]).run P w = .ok v' w' ∧ w'.ownsRow base e size v' (n + m) (xs ++ news) ∧ w.grownBy w' v.ownBlock ∧
      (v'.ownBlock = v.ownBlock ∨ v'.ownBlock = some w.heap.size) := by
  obtain ⟨v', w', hr, h2, h3, h4⟩ := run_append_own (P := P) w base t ty e i z size bytes ht hi hz hsize hby hzs hsz v n xs hown a m c news hl hnews h1 h63 hbytes hbase
  refine ⟨v', w', hr, h2, h3, ?_⟩
  subst hsize
  subst hby
  have hsmall : n + m ≤ 9223372036854775807 := by simp only [maxLen] at h63; omega
  rcases hown.2 with ⟨rfl, rfl⟩ | ⟨g', cap, cur, rfl, hbg, hgg, hnc, hcm, hcs, htake⟩
  · by_cases hm : m = 0
    · left
      rw [h4.2 ⟨rfl, hm⟩]
    · right
      have hr' := run_append_nil (P := P) w t ty e i z ht hi hz a m c news hl hnews (by omega) (by omega) (by have hb := hbytes; simp only [Nat.zero_add] at hb; omega)
      rw [hr] at hr'
      injection hr' with e1 e2
      rw [e1]; rfl
  · by_cases hroom : n + m ≤ cap
    · left
      have hfit : n * i.size + news.length ≤ cur.size := by rw [hl, hcs, ← Nat.add_mul]; exact Nat.mul_le_mul_right _ hroom
      have hr' := run_append_room (P := P) w t ty e i ht hi g' n cap cur hgg a m c news hl hnews h1 hroom hfit
      rw [hr] at hr'
      injection hr' with e1 e2
      rw [e1]; rfl
    · right
      have hr' := run_append_grow (P := P) w t ty e i z ht hi hz ⟨g', 0, none⟩ n cap xs hown.1 (hown.cells (g := g') rfl) a m c news hl hnews (by omega) (by omega) (growslice_fits (by omega) hbytes)
      rw [hr] at hr'
      injection hr' with e1 e2
      rw [e1]; rfl

theorem wpList_append_where {w : World} {ops : Array Oper} {rest : List Oper} {o : Oper} {a : Act} {Q : Exit → Act → World → Prop} (hgd : o.guard = none) (s x : Operand) (t : TypeId)
    (ho : o.op = .call { callee := .builtin .append, args := #[s, x], argTypes := #[t, t] })
    (base : Nat) (e : TypeId) (i : TypeInfo) (z : Value) (size bytes : Nat) (ht : P.underlying t = some (.slice e)) (hi : P.info? e = some i) (hz : i.zero = some z)
    (hsize : i.size = size) (hby : i.bytes = bytes) (hzs : z.cells.size = size) (hsz : 0 < size)
    (v : Value) (n : Nat) (xs : List Value) (hs : a.eval s = v) (hown : w.ownsRow base e size v n xs)
    (ad : Addr) (m c : Nat) (news : List Value) (hx : a.eval x = .slice (some ad) m c) (hl : news.length = m * size) (hnews : ∀ j u, news[j]? = some u → w.cell? (ad.add j) = some u) (h1 : ∀ u ∈ news, u.oneCell' = true)
    (h63 : n + m ≤ maxLen) (hbytes : (n + m) * bytes ≤ 140737488355328) (hbase : base ≤ w.heap.size)
    (h : ∀ v' w', w'.ownsRow base e size v' (n + m) (xs ++ news) → w.grownBy w' v.ownBlock → (v'.ownBlock = v.ownBlock ∨ v'.ownBlock = some w.heap.size) → wpList P ops Q rest (a.put o.dst v') w') : wpList P ops Q (o :: rest) a w :=
  wpList_plain hgd fun _ hK => by
    obtain ⟨v', w', hr, h2, h3, h4⟩ := run_append_where (P := P) w base t o.type e i z size bytes ht hi hz hsize hby hzs hsz v n xs hown ad m c news hl hnews h1 h63 hbytes hbase
    unfold Oper.wp execOp
    simp only [ho, resolve, invoke, builtin, Sem.run_bind, Sem.run_pure, Result.andThen_ok, List.map_toArray, List.map_cons, List.map_nil, hs, hx, hr]
    exact hK _ _ (h v' w' h2 h3 h4)
end

theorem types59 : (Tryd.prog.types[59]?).map (·.size) = some 2 := by kernel_rfl
theorem size59 (h : 59 < Tryd.prog.types.size) : Tryd.prog.types[59].size = 2 := by
  have := types59
  rw [Array.getElem?_eq_getElem h] at this
  simpa using this

/-- The table of the runs of characters lies as listed. -/
def EnvR (w : World) : Prop := 1 < w.heap.size ∧ w.cell? ⟨1, 0, none⟩ = some (.int .i32 0) ∧ w.cell? ⟨1, 1, none⟩ = some (.int .i32 55295) ∧ w.cell? ⟨1, 2, none⟩ = some (.int .i32 57344) ∧ w.cell? ⟨1, 3, none⟩ = some (.int .i32 1114111)
theorem EnvR.kept {w w' : World} (h : EnvR w) (hb : Below w.heap.size w w') : EnvR w' :=
  ⟨Nat.lt_of_lt_of_le h.1 hb.size, (hb.cell (p := ⟨1, 0, none⟩) h.1).trans h.2.1, (hb.cell (p := ⟨1, 1, none⟩) h.1).trans h.2.2.1, (hb.cell (p := ⟨1, 2, none⟩) h.1).trans h.2.2.2.1, (hb.cell (p := ⟨1, 3, none⟩) h.1).trans h.2.2.2.2⟩

/-- The part of a range in the run from p to q. -/
def part1 (x y p q : Int) : List (Int × Int) := if max x p ≤ min y q then [(max x p, min y q)] else []
/-- A range without its surrogates. -/
def cutR (x y : Int) : List (Int × Int) := part1 x y 0 55295 ++ part1 x y 57344 1114111
def cutN (x y : Int) : Nat → List (Int × Int)
  | 0 => []
  | 1 => part1 x y 0 55295
  | _ => cutR x y
theorem part1_len (x y p q : Int) : (part1 x y p q).length ≤ 1 := by unfold part1; split <;> simp
theorem cutN_len (x y : Int) : ∀ i, (cutN x y i).length ≤ 2
  | 0 => by simp [cutN]
  | 1 => by have := part1_len x y 0 55295; rw [cutN]; omega
  | i + 2 => by
    have := part1_len x y 0 55295
    have := part1_len x y 57344 1114111
    rw [cutN, cutR, List.length_append]
    · omega
    · omega
    · omega
theorem cutR_len (x y : Int) : (cutR x y).length ≤ 2 := by
  have := part1_len x y 0 55295
  have := part1_len x y 57344 1114111
  rw [cutR, List.length_append]; omega

set_option maxHeartbeats 4000000 in
theorem appendChars_any (L : List (Int × Int)) (u : Value) (x y : Int) (B n : Nat) (w : World) (he : EnvR w) (hown : w.ownsRow B 59 2 u n (rgCells L)) (hL : L.length = n) (hB : B ≤ w.heap.size) (hn : n ≤ 3000000) (hx0 : 0 ≤ x) (hxy : x ≤ y) (hy : y ≤ 1114111) :
    Calls Tryd.prog 65 #[u, .agg #[.int .i32 x, .int .i32 y]] w fun e w' => ∃ u', e = .returned u' ∧ w'.ownsRow B 59 2 u' (n + (cutR x y).length) (rgCells (L ++ cutR x y)) ∧ Below B w w' := by
  obtain ⟨i0, hi0, hz0, hz1, hz2⟩ := info_parts rg_info
  obtain ⟨hw1, e0, e1, e2, e3⟩ := he
  have x0 : ∀ W, (Instr.index 131 (.agg #[.int .i32 0, .int .i32 55295, .int .i32 57344, .int .i32 1114111]) (.int .i64 0)).run Tryd.prog W = .ok (.agg #[.int .i32 0, .int .i32 55295]) W := fun _ => by kernel_rfl
  have x1 : ∀ W, (Instr.index 131 (.agg #[.int .i32 0, .int .i32 55295, .int .i32 57344, .int .i32 1114111]) (.int .i64 1)).run Tryd.prog W = .ok (.agg #[.int .i32 57344, .int .i32 1114111]) W := fun _ => by kernel_rfl
  have hX := Blk.new w 59 #[.int .i32 x, .int .i32 y]
  go_enter Tryd.func65, Tryd.ntmps65
  go_wp2
  go_loopw [0, 9] (fun u t wr => ∃ i : Nat, i ≤ 2 ∧ t = .int .i64 (i : Int) ∧ wr.ownsRow B 59 2 u (n + (cutN x y i).length) (rgCells (L ++ cutN x y i)) ∧ Below B w wr ∧ Blk wr w.heap.size 59 #[.int .i32 x, .int .i32 y] ∧ ∀ k, u.ownBlock = some k → k ≠ w.heap.size) (fun _ t _ => 2 - (intOf t).toNat)
  case atStart => exact ⟨0, by omega, rfl, by simpa [cutN] using hown.alloc _, (Below.refl _ _).alloc hB _, hX, fun k hk => by have := (hown.lt k hk).2; omega⟩
  case round =>
    obtain ⟨i, hi, rfl, hown, hbw, hX, hnk⟩ := hrel
    by_cases hi2 : i < 2
    · rcases (show i = 0 ∨ i = 1 by omega) with hik | hik
      · subst hik
        have hlen : n + (cutN x y 0).length ≤ 3000002 := by have := cutN_len x y 0; omega
        generalize hNN : n + (cutN x y 0).length = N at *
        have hs := hbw.size
        have hlx := hX.lt
        have hx0' := hX.cell 0
        have hx1' := hX.cell 1
        simp at hx0' hx1'
        have HK := Lib.hid hnk
        clear hnk
        by_cases hle : max x 0 ≤ min y 55295
        · have HP : Hid (cutN x y 1 = cutN x y 0 ++ [(max x 0, min y 55295)]) := by
            rw [Hid]; simp [cutN, part1, hle]
          obtain ⟨a, hma⟩ : ∃ a, max x 0 = a := ⟨_, rfl⟩
          obtain ⟨b, hmb⟩ : ∃ b, min y 55295 = b := ⟨_, rfl⟩
          rw [hma, hmb] at hle HP
          have ho3 := ((hown.alloc (.cells #[.int .i32 0, .int .i32 55295] 59)).alloc (.cells #[.int .i32 a, .int .i32 b] 59)).alloc (.cells #[.int .i32 a, .int .i32 b] 59)
          have hb3 := ((hbw.alloc (by omega) (.cells #[.int .i32 0, .int .i32 55295] 59)).alloc (by simp; omega) (.cells #[.int .i32 a, .int .i32 b] 59)).alloc (by simp; omega) (.cells #[.int .i32 a, .int .i32 b] 59)
          have hX3 := ((hX.alloc (.cells #[.int .i32 0, .int .i32 55295] 59)).alloc (.cells #[.int .i32 a, .int .i32 b] 59)).alloc (.cells #[.int .i32 a, .int .i32 b] 59)
          have hc2 := cell_two_at ((wr.alloc (.cells #[.int .i32 0, .int .i32 55295] 59)).alloc (.cells #[.int .i32 a, .int .i32 b] 59)) 59 (.int .i32 a) (.int .i32 b)
          simp only [World.size_alloc] at hc2
          have HC2 := Lib.hid hc2
          have HNN := Lib.hid hNN
          clear hc2 hNN
          go_wp2_with (at_builtin; refine wpList_append_where (w := ((wr.alloc (.cells #[.int .i32 0, .int .i32 55295] 59)).alloc (.cells #[.int .i32 a, .int .i32 b] 59)).alloc (.cells #[.int .i32 a, .int .i32 b] 59)) rfl (.tmp 28) (.tmp 30) 33 rfl B 59 i0 (.agg #[.int .i32 0, .int .i32 0]) 2 8 Tryd.underlying33 hi0 hz0 hz1 hz2 rfl (by decide) u0 N _ rfl ho3 ⟨wr.heap.size + 1 + 1, 0, none⟩ 1 1 [.int .i32 a, .int .i32 b] rfl rfl HC2.out (by simp [Value.oneCell']) (by unfold maxLen; omega) (by omega) (by simp; omega) ?_; intro v' w4 hown4 hgrow hwh; have hb4 : Below B w w4 := hb3.grown hgrow (by simp; omega) (fun k hk => (ho3.lt k hk).1); have hX4 : Blk w4 w.heap.size 59 #[.int .i32 x, .int .i32 y] := (hgrow.block w.heap.size hX3.lt (fun e => HK.out _ e.symm rfl)).trans hX3; have HWH := Lib.hid hwh; clear hgrow hwh)
          go_roundw
          case rel =>
            refine ⟨1, by omega, by rfl, ?_, hb4, hX4, fun k hk => ?_⟩
            · rw [HP.out, List.length_append, ← Nat.add_assoc, HNN.out, ← List.append_assoc, rgCells_snoc]
              exact hown4
            · rcases HWH.out with h5 | h5
              · exact HK.out k (by rw [← h5]; exact hk)
              · rw [h5] at hk
                injection hk with hk
                simp at hk; omega
          case measure => simp [intOf]
        · have HP : Hid (cutN x y 1 = cutN x y 0) := by
            rw [Hid]; simp [cutN, part1, hle]
          obtain ⟨a, hma⟩ : ∃ a, max x 0 = a := ⟨_, rfl⟩
          obtain ⟨b, hmb⟩ : ∃ b, min y 55295 = b := ⟨_, rfl⟩
          rw [hma, hmb] at hle
          have ho3 := (hown.alloc (.cells #[.int .i32 0, .int .i32 55295] 59)).alloc (.cells #[.int .i32 a, .int .i32 b] 59)
          have hb3 := (hbw.alloc (by omega) (.cells #[.int .i32 0, .int .i32 55295] 59)).alloc (by simp; omega) (.cells #[.int .i32 a, .int .i32 b] 59)
          have hX3 := (hX.alloc (.cells #[.int .i32 0, .int .i32 55295] 59)).alloc (.cells #[.int .i32 a, .int .i32 b] 59)
          have HNN := Lib.hid hNN
          clear hNN
          go_wp2
          go_roundw
          case rel => exact ⟨1, by omega, by rfl, by rw [HP.out, HNN.out]; exact ho3, hb3, hX3, HK.out⟩
          case measure => simp [intOf]
      · subst hik
        have hlen : n + (cutN x y 1).length ≤ 3000002 := by have := cutN_len x y 1; omega
        generalize hNN : n + (cutN x y 1).length = N at *
        have hs := hbw.size
        have hlx := hX.lt
        have hx0' := hX.cell 0
        have hx1' := hX.cell 1
        simp at hx0' hx1'
        have HK := Lib.hid hnk
        clear hnk
        by_cases hle : max x 57344 ≤ min y 1114111
        · have HP : Hid (cutN x y 2 = cutN x y 1 ++ [(max x 57344, min y 1114111)]) := by
            rw [Hid]; simp [cutN, cutR, part1, hle]
          obtain ⟨a, hma⟩ : ∃ a, max x 57344 = a := ⟨_, rfl⟩
          obtain ⟨b, hmb⟩ : ∃ b, min y 1114111 = b := ⟨_, rfl⟩
          rw [hma, hmb] at hle HP
          have ho3 := ((hown.alloc (.cells #[.int .i32 57344, .int .i32 1114111] 59)).alloc (.cells #[.int .i32 a, .int .i32 b] 59)).alloc (.cells #[.int .i32 a, .int .i32 b] 59)
          have hb3 := ((hbw.alloc (by omega) (.cells #[.int .i32 57344, .int .i32 1114111] 59)).alloc (by simp; omega) (.cells #[.int .i32 a, .int .i32 b] 59)).alloc (by simp; omega) (.cells #[.int .i32 a, .int .i32 b] 59)
          have hX3 := ((hX.alloc (.cells #[.int .i32 57344, .int .i32 1114111] 59)).alloc (.cells #[.int .i32 a, .int .i32 b] 59)).alloc (.cells #[.int .i32 a, .int .i32 b] 59)
          have hc2 := cell_two_at ((wr.alloc (.cells #[.int .i32 57344, .int .i32 1114111] 59)).alloc (.cells #[.int .i32 a, .int .i32 b] 59)) 59 (.int .i32 a) (.int .i32 b)
          simp only [World.size_alloc] at hc2
          have HC2 := Lib.hid hc2
          have HNN := Lib.hid hNN
          clear hc2 hNN
          go_wp2_with (at_builtin; refine wpList_append_where (w := ((wr.alloc (.cells #[.int .i32 57344, .int .i32 1114111] 59)).alloc (.cells #[.int .i32 a, .int .i32 b] 59)).alloc (.cells #[.int .i32 a, .int .i32 b] 59)) rfl (.tmp 28) (.tmp 30) 33 rfl B 59 i0 (.agg #[.int .i32 0, .int .i32 0]) 2 8 Tryd.underlying33 hi0 hz0 hz1 hz2 rfl (by decide) u0 N _ rfl ho3 ⟨wr.heap.size + 1 + 1, 0, none⟩ 1 1 [.int .i32 a, .int .i32 b] rfl rfl HC2.out (by simp [Value.oneCell']) (by unfold maxLen; omega) (by omega) (by simp; omega) ?_; intro v' w4 hown4 hgrow hwh; have hb4 : Below B w w4 := hb3.grown hgrow (by simp; omega) (fun k hk => (ho3.lt k hk).1); have hX4 : Blk w4 w.heap.size 59 #[.int .i32 x, .int .i32 y] := (hgrow.block w.heap.size hX3.lt (fun e => HK.out _ e.symm rfl)).trans hX3; have HWH := Lib.hid hwh; clear hgrow hwh)
          go_roundw
          case rel =>
            refine ⟨2, by omega, by rfl, ?_, hb4, hX4, fun k hk => ?_⟩
            · rw [HP.out, List.length_append, ← Nat.add_assoc, HNN.out, ← List.append_assoc, rgCells_snoc]
              exact hown4
            · rcases HWH.out with h5 | h5
              · exact HK.out k (by rw [← h5]; exact hk)
              · rw [h5] at hk
                injection hk with hk
                simp at hk; omega
          case measure => simp [intOf]
        · have HP : Hid (cutN x y 2 = cutN x y 1) := by
            rw [Hid]; simp [cutN, cutR, part1, hle]
          obtain ⟨a, hma⟩ : ∃ a, max x 57344 = a := ⟨_, rfl⟩
          obtain ⟨b, hmb⟩ : ∃ b, min y 1114111 = b := ⟨_, rfl⟩
          rw [hma, hmb] at hle
          have ho3 := (hown.alloc (.cells #[.int .i32 57344, .int .i32 1114111] 59)).alloc (.cells #[.int .i32 a, .int .i32 b] 59)
          have hb3 := (hbw.alloc (by omega) (.cells #[.int .i32 57344, .int .i32 1114111] 59)).alloc (by simp; omega) (.cells #[.int .i32 a, .int .i32 b] 59)
          have hX3 := (hX.alloc (.cells #[.int .i32 57344, .int .i32 1114111] 59)).alloc (.cells #[.int .i32 a, .int .i32 b] 59)
          have HNN := Lib.hid hNN
          clear hNN
          go_wp2
          go_roundw
          case rel => exact ⟨2, by omega, by rfl, by rw [HP.out, HNN.out]; exact ho3, hb3, hX3, HK.out⟩
          case measure => simp [intOf]
    · obtain rfl : i = 2 := by omega
      go_wp2
      go_ret
      exact ⟨_, rfl, hown, hbw⟩
end Go.Proofs.YtccbofaefpbhlaaDoor
