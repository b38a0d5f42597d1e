/-
  Rows of numbers of one's own; an append that leaves the old row's cells as they were.
-/
import Derived.Test.YtobfhidajcnfdaaDoorBytesA
import Derived.Test.YtobfhidajcnfdaaDoorLawTexts
namespace Go.Proofs.YtobfhidajcnfdaaDoor
set_option linter.unusedVariables false
set_option maxRecDepth 20000
open Go.RowKit

section
variable {P : Program} (w : World)
/-- An append to a row of one's own: the new row, and the old slice reads as it did. -/
theorem run_append_keeps (base : Nat) (t ty e : TypeId) (i : TypeInfo) (z : Value) (size bytes : Nat) (ht : P.underlying t = some (.slice e)) (hi : P.info? e = some i) (hz : i.zero = some z)
    (hsize : i.size = size) (hby : i.bytes = bytes) (hzs : z.cells.size = size) (hsz : 0 < size)
    (v : Value) (n : Nat) (xs : List Value) (hown : w.ownsRow base e size v n xs)
    (a : Addr) (m c : Nat) (news : List Value) (hl : news.length = m * size) (hnews : ∀ j u, news[j]? = some u → w.cell? (a.add j) = some u) (h1 : ∀ u ∈ news, u.oneCell' = true)
    (h63 : n + m ≤ maxLen) (hbytes : (n + m) * bytes ≤ 140737488355328) (hbase : base ≤ w.heap.size) :
    ∃ v' w', (Builtin.append_ #[t, t] ty #[v, .slice (some a) m c]).run P w = .ok v' w' ∧ w'.ownsRow base e size v' (n + m) (xs ++ news) ∧ w.grownBy w' v.ownBlock ∧
      (∀ g, v.ownBlock = some g → ∀ j u, xs[j]? = some u → w'.cell? ⟨g, j, none⟩ = some u) := by
  obtain ⟨v', w', hr, h2, h3, _⟩ := run_append_own (P := P) w base t ty e i z size bytes ht hi hz hsize hby hzs hsz v n xs hown a m c news hl hnews h1 h63 hbytes hbase
  refine ⟨v', w', hr, h2, h3, fun g hg j u hu => ?_⟩
  subst hsize
  subst hby
  rw [← add_zero_block]
  have hsmall : n + m ≤ 9223372036854775807 := by simp only [maxLen] at h63; omega
  rcases hown.2 with ⟨rfl, rfl⟩ | ⟨g', cap, cur, rfl, hbg, hgg, hnc, hcm, hcs, htake⟩
  · simp [Value.ownBlock] at hg
  · simp [Value.ownBlock] at hg
    subst hg
    by_cases hroom : n + m ≤ cap
    · have hfit : n * i.size + news.length ≤ cur.size := by rw [hl, hcs, ← Nat.add_mul]; exact Nat.mul_le_mul_right _ hroom
      have hr' := run_append_room (P := P) w t ty e i ht hi g' n cap cur hgg a m c news hl hnews h1 hroom hfit
      rw [hr] at hr'
      injection hr' with e1 e2
      subst e1
      refine h2.cells (g := g') rfl j u ?_
      rw [List.getElem?_append_left (by
        rcases Nat.lt_or_ge j xs.length with h | h
        · exact h
        · rw [List.getElem?_eq_none h] at hu; cases hu)]
      exact hu
    · have hc := hown.cells (g := g') rfl j u hu
      have hr' := run_append_grow (P := P) w t ty e i z ht hi hz ⟨g', 0, none⟩ n cap xs hown.1 (hown.cells (g := g') rfl) a m c news hl hnews (by omega) (by omega) (growslice_fits (by omega) hbytes)
      rw [hr] at hr'
      injection hr' with e1 e2
      subst e2
      have hlt : g' < w.heap.size := (Array.getElem?_eq_some_iff.1 hgg).1
      exact (((Below.refl w.heap.size w).drew).alloc (Nat.le_refl _) _).cell (p := (⟨g', 0, none⟩ : Addr).add j) (by rw [add_block]; exact hlt) |>.trans hc

theorem wpList_append_keeps {w : World} {ops : Array Oper} {rest : List Oper} {o : Oper} {a : Act} {Q : Exit → Act → World → Prop} (hgd : o.guard = none) (s x : Operand) (t : TypeId)
    (ho : o.op = .call { callee := .builtin .append, args := #[s, x], argTypes := #[t, t] })
    (base : Nat) (e : TypeId) (i : TypeInfo) (z : Value) (size bytes : Nat) (ht : P.underlying t = some (.slice e)) (hi : P.info? e = some i) (hz : i.zero = some z)
    (hsize : i.size = size) (hby : i.bytes = bytes) (hzs : z.cells.size = size) (hsz : 0 < size)
    (v : Value) (n : Nat) (xs : List Value) (hs : a.eval s = v) (hown : w.ownsRow base e size v n xs)
    (ad : Addr) (m c : Nat) (news : List Value) (hx : a.eval x = .slice (some ad) m c) (hl : news.length = m * size) (hnews : ∀ j u, news[j]? = some u → w.cell? (ad.add j) = some u) (h1 : ∀ u ∈ news, u.oneCell' = true)
    (h63 : n + m ≤ maxLen) (hbytes : (n + m) * bytes ≤ 140737488355328) (hbase : base ≤ w.heap.size)
    (h : ∀ v' w', w'.ownsRow base e size v' (n + m) (xs ++ news) → w.grownBy w' v.ownBlock → (∀ g, v.ownBlock = some g → ∀ j u, xs[j]? = some u → w'.cell? ⟨g, j, none⟩ = some u) → wpList P ops Q rest (a.put o.dst v') w') : wpList P ops Q (o :: rest) a w :=
  wpList_plain hgd fun _ hK => by
    obtain ⟨v', w', hr, h2, h3, h4⟩ := run_append_keeps (P := P) w base t o.type e i z size bytes ht hi hz hsize hby hzs hsz v n xs hown ad m c news hl hnews h1 h63 hbytes hbase
    unfold Oper.wp execOp
    simp only [ho, resolve, invoke, builtin, Sem.run_bind, Sem.run_pure, Result.andThen_ok, List.map_toArray, List.map_cons, List.map_nil, hs, hx, hr]
    exact hK _ _ (h v' w' h2 h3 h4)
end

theorem nat_info : (Tryd.prog.info? 26).map (fun i => (i.zero, i.size, i.bytes)) = some (some (.agg #[.slice none 0 0]), 1, 24) := by kernel_rfl

/-- A row of one's own of numbers. -/
def NatsAt (B : Nat) (w : World) (u : Value) (ns : List Nat) : Prop :=
  ∃ cs : List Value, w.ownsRow B 26 1 u ns.length cs ∧ ∀ j, j < ns.length → ∃ A n c, cs[j]? = some (.slice A n c) ∧ IsN w (.agg #[.slice A n c]) 400 (ns.getD j 0)
/-- A slice of numbers, to be read. -/
def NatsIn (w : World) (u : Value) (ns : List Nat) : Prop :=
  ∃ ao cap, u = .slice ao ns.length cap ∧ ∀ j, j < ns.length → ∃ g A n c, ao = some ⟨g, 0, none⟩ ∧ g < w.heap.size ∧ w.cell? ⟨g, j, none⟩ = some (.slice A n c) ∧ IsN w (.agg #[.slice A n c]) 400 (ns.getD j 0)

theorem NatsAt.nil (B : Nat) (w : World) : NatsAt B w (.slice none 0 0) [] := ⟨[], World.ownsRow_nil _ _ _ _, fun j hj => by simp at hj⟩
theorem NatsAt.on {B : Nat} {w w' : World} {u : Value} {ns : List Nat} (h : NatsAt B w u ns) (hb : Below w.heap.size w w') : NatsAt B w' u ns := by
  obtain ⟨cs, h1, h2⟩ := h
  refine ⟨cs, own_kept h1 hb, fun j hj => ?_⟩
  obtain ⟨A, n, c, e, hN⟩ := h2 j hj
  exact ⟨A, n, c, e, hN.below hb⟩
theorem NatsAt.set_ {B : Nat} {w : World} {u : Value} {ns : List Nat} {g : Nat} {cs' : Array Value} (h : NatsAt B w u ns) (hX : Blk w g 26 cs') (hg : g < B) (v : Value) : NatsAt B (w.setCell ⟨g, 0, none⟩ v) u ns := by
  obtain ⟨cs, h1, h2⟩ := h
  refine ⟨cs, ownsRow_setCell_below h1 hg _, fun j hj => ?_⟩
  obtain ⟨A, n, c, e, hN⟩ := h2 j hj
  exact ⟨A, n, c, e, hN.far hX 0 _⟩
theorem NatsAt.in_ {B : Nat} {w : World} {u : Value} {ns : List Nat} (h : NatsAt B w u ns) : NatsIn w u ns := by
  obtain ⟨cs, h1, h2⟩ := h
  obtain ⟨ao, cap, rfl⟩ := own_form h1
  refine ⟨ao, cap, rfl, fun j hj => ?_⟩
  obtain ⟨A, n, c, e, hN⟩ := h2 j hj
  obtain ⟨k, hk⟩ : ∃ k, ns.length = k + 1 := ⟨ns.length - 1, by omega⟩
  rw [hk] at h1
  obtain ⟨g, cap', e'⟩ := ownsRow_succ h1
  injection e' with e1 e2 e3
  subst e1
  refine ⟨g, A, n, c, rfl, (h1.lt g rfl).2, ?_, hN⟩
  have := h1.cells (g := g) rfl j _ e
  rwa [add_zero_block] at this
theorem NatsIn.on {w w' : World} {u : Value} {ns : List Nat} (h : NatsIn w u ns) (hb : Below w.heap.size w w') : NatsIn w' u ns := by
  obtain ⟨ao, cap, rfl, h2⟩ := h
  refine ⟨ao, cap, rfl, fun j hj => ?_⟩
  obtain ⟨g, A, n, c, e, hl, hc, hN⟩ := h2 j hj
  exact ⟨g, A, n, c, e, Nat.lt_of_lt_of_le hl hb.size, (hb.cell (p := ⟨g, j, none⟩) hl).trans hc, hN.below hb⟩
theorem NatsAt.shape {B : Nat} {w : World} {u : Value} {ns : List Nat} (h : NatsAt B w u ns) : ∃ ao cap, u = .slice ao ns.length cap := by
  obtain ⟨cs, h1, _⟩ := h
  exact own_form h1

/-- The bytes of all of them. -/
def allBytes (ns : List Nat) : List UInt8 := ns.flatMap putBytes
theorem allBytes_snoc (ns : List Nat) (n : Nat) : allBytes (ns ++ [n]) = allBytes ns ++ putBytes n := by simp [allBytes]
theorem allBytes_cons (n : Nat) (ns : List Nat) : allBytes (n :: ns) = putBytes n ++ allBytes ns := by simp [allBytes]
theorem allBytes_drop (ns : List Nat) (i : Nat) (h : i < ns.length) : allBytes (ns.drop i) = putBytes (ns.getD i 0) ++ allBytes (ns.drop (i + 1)) := by
  rw [List.drop_eq_getElem_cons h, allBytes_cons]
  simp [List.getD, h]
theorem allBytes_len (k : Nat) : ∀ (ns : List Nat), (∀ n ∈ ns, bl n ≤ 32 * k) → (allBytes ns).length ≤ (4 + 4 * k) * ns.length
  | [], _ => by simp [allBytes]
  | n :: ns, h => by
    have ih := allBytes_len k ns (fun m hm => h m (by simp [hm]))
    have h1 := h n (by simp)
    rw [allBytes_cons, List.length_append, putBytes_length, List.length_cons, Nat.mul_add]
    unfold bytesLen
    omega
/-- The product of the numbers that are one greater. -/
def prodOf (ns : List Nat) : Nat := ns.foldl (fun p n => p * (n + 1)) 1
theorem prodOf_snoc (ns : List Nat) (n : Nat) : prodOf (ns ++ [n]) = prodOf ns * (n + 1) := by simp [prodOf]
theorem prodOf_dvd (ns : List Nat) (n : Nat) (h : n ∈ ns) : n + 1 ∣ prodOf ns := by
  induction ns using snoc_rec with
  | nil => simp at h
  | snoc l x ih =>
    rw [prodOf_snoc]
    simp only [List.mem_append, List.mem_singleton] at h
    rcases h with h | rfl
    · exact Nat.dvd_trans (ih h) (Nat.dvd_mul_right _ _)
    · exact Nat.dvd_mul_left _ _
theorem prodOf_pos (ns : List Nat) : 0 < prodOf ns := by
  induction ns using snoc_rec with
  | nil => decide
  | snoc l x ih => rw [prodOf_snoc]; exact Nat.mul_pos ih (by omega)
theorem le_sum : ∀ (ns : List Nat) (n : Nat), n ∈ ns → n ≤ ns.sum
  | [], _, h => by simp at h
  | x :: l, n, h => by
    rw [List.sum_cons]
    rcases List.mem_cons.1 h with rfl | h
    · omega
    · have := le_sum l n h; omega

/-- A row of bytes of one's own as an argument. -/
theorem own_byt {w : World} {B : Nat} {u : Value} {bs : List UInt8} (h : w.ownsRow B 5 1 u bs.length (Lib.byteCells bs)) : ∃ A c, u = .slice A bs.length c ∧ Byt w A bs ∧ (A = none → c = 0) := by
  rcases bs with _ | ⟨b, r⟩
  · rcases h.2 with ⟨rfl, _⟩ | ⟨g, cap, cur, rfl, _⟩
    · exact ⟨none, 0, rfl, Byt.nil _ _, fun _ => rfl⟩
    · exact ⟨_, cap, rfl, Byt.nil _ _, fun h => by cases h⟩
  · obtain ⟨g, cap, e⟩ := ownsRow_succ (k := r.length) h
    subst e
    exact ⟨_, cap, rfl, fun _ => ⟨_, rfl, (h.lt g rfl).2, h.cells (g := g) rfl⟩, fun h => by cases h⟩

/-- What loop 1 of the law on numbers keeps. -/
def NumAt (w : World) (B g5 g6 : Nat) (u3 u4 : Value) (ns : List Nat) (wr : World) : Prop :=
  ∃ A5 n5 c5 A6 n6 c6, Blk wr g5 26 #[.slice A5 n5 c5] ∧ Blk wr g6 26 #[.slice A6 n6 c6] ∧ IsN wr (.agg #[.slice A5 n5 c5]) (41 + ns.length) ns.sum ∧ IsN wr (.agg #[.slice A6 n6 c6]) (2 + 41 * ns.length) (prodOf ns) ∧
    NatsAt B wr u4 ns ∧ wr.ownsRow B 5 1 u3 (allBytes ns).length (Lib.byteCells (allBytes ns)) ∧ (∀ n ∈ ns, bl n ≤ 1280) ∧ Below w.heap.size w wr ∧ B ≤ wr.heap.size

/-- Slices of limbs that came in. -/
def CameR (w : World) (a : Option Addr) (n : Nat) : Prop := ∀ i, i < n → ∃ ad A len c l, a = some ad ∧ ad.block < w.heap.size ∧ w.cell? (ad.add i) = some (.slice A len c) ∧ Came w A len c l
/-- A row of one's own stays while one of another type grows. -/
theorem own_other {w w' : World} {B B' n n' : Nat} {e e' : TypeId} {u u' : Value} {xs xs' : List Value} (h : w.ownsRow B e 1 u n xs) (h' : w.ownsRow B' e' 1 u' n' xs') (hne : e ≠ e') (hg : w.grownBy w' u'.ownBlock) : w'.ownsRow B e 1 u n xs := by
  refine h.kept hg ?_
  rcases h.2 with ⟨rfl, _⟩ | ⟨g, cap, cur, rfl, _, hh, _⟩
  · exact .inl rfl
  · right
    intro e1
    rcases h'.2 with ⟨rfl, _⟩ | ⟨g', cap', cur', rfl, _, hh', _⟩
    · simp [Value.ownBlock] at e1
    · simp [Value.ownBlock] at e1
      subst e1
      rw [hh] at hh'
      injection hh' with hh'
      injection hh' with _ hh'
      exact hne hh'
/-- The row with one number more. -/
theorem NatsAt.snoc {B : Nat} {w : World} {u : Value} {ns : List Nat} {cs : List Value} {A : Option Addr} {n c N : Nat} (hown : w.ownsRow B 26 1 u (ns.length + 1) (cs ++ [.slice A n c])) (hcs : cs.length = ns.length)
    (hels : ∀ j, j < ns.length → ∃ A n c, cs[j]? = some (.slice A n c) ∧ IsN w (.agg #[.slice A n c]) 400 (ns.getD j 0)) (hN : IsN w (.agg #[.slice A n c]) 400 N) : NatsAt B w u (ns ++ [N]) := by
  refine ⟨cs ++ [.slice A n c], by rw [List.length_append]; exact hown, fun j hj => ?_⟩
  rw [List.length_append, List.length_singleton] at hj
  rcases Nat.lt_or_ge j ns.length with h | h
  · obtain ⟨A', n', c', e, hI⟩ := hels j h
    refine ⟨A', n', c', by rw [List.getElem?_append_left (by omega)]; exact e, ?_⟩
    rw [List.getD_eq_getElem?_getD, List.getElem?_append_left h, ← List.getD_eq_getElem?_getD]
    exact hI
  · obtain rfl : j = ns.length := by omega
    refine ⟨A, n, c, by rw [← hcs]; simp, ?_⟩
    rw [List.getD_eq_getElem?_getD, List.getElem?_append_right (Nat.le_refl _)]
    simpa using hN
/-- The row with two numbers more. -/
theorem NatsAt.two {B : Nat} {w : World} {u : Value} {ns : List Nat} {cs : List Value} {A : Option Addr} {n c N : Nat} {A' : Option Addr} {n' c' M : Nat} (hown : w.ownsRow B 26 1 u (ns.length + 2) (cs ++ [.slice A n c, .slice A' n' c'])) (hcs : cs.length = ns.length)
    (hels : ∀ j, j < ns.length → ∃ A n c, cs[j]? = some (.slice A n c) ∧ IsN w (.agg #[.slice A n c]) 400 (ns.getD j 0)) (hN : IsN w (.agg #[.slice A n c]) 400 N) (hM : IsN w (.agg #[.slice A' n' c']) 400 M) : NatsAt B w u (ns ++ [N, M]) := by
  refine ⟨cs ++ [.slice A n c, .slice A' n' c'], by rw [List.length_append]; exact hown, fun j hj => ?_⟩
  rw [List.length_append] at hj
  simp only [List.length_cons, List.length_nil] at hj
  rcases Nat.lt_or_ge j ns.length with h | h
  · obtain ⟨A1, n1, c1, e, hI⟩ := hels j h
    refine ⟨A1, n1, c1, by rw [List.getElem?_append_left (by omega)]; exact e, ?_⟩
    rw [List.getD_eq_getElem?_getD, List.getElem?_append_left h, ← List.getD_eq_getElem?_getD]
    exact hI
  · rcases (show j = ns.length ∨ j = ns.length + 1 by omega) with rfl | rfl
    · refine ⟨A, n, c, by rw [← hcs]; simp, ?_⟩
      rw [List.getD_eq_getElem?_getD, List.getElem?_append_right (Nat.le_refl _)]
      simpa using hN
    · refine ⟨A', n', c', by rw [← hcs]; simp, ?_⟩
      rw [List.getD_eq_getElem?_getD, List.getElem?_append_right (by omega)]
      simpa using hM
/-- The old slice reads as it did. -/
theorem NatsIn.old {w : World} {u : Value} {ns : List Nat} {cs : List Value} {cap : Nat} {ao : Option Addr} (hu : u = .slice ao ns.length cap) (hlt : ∀ k, u.ownBlock = some k → k < w.heap.size) (ha : 0 < ns.length → ∃ g, ao = some ⟨g, 0, none⟩)
    (hold : ∀ g, u.ownBlock = some g → ∀ j v, cs[j]? = some v → w.cell? ⟨g, j, none⟩ = some v)
    (hels : ∀ j, j < ns.length → ∃ A n c, cs[j]? = some (.slice A n c) ∧ IsN w (.agg #[.slice A n c]) 400 (ns.getD j 0)) : NatsIn w u ns := by
  subst hu
  refine ⟨ao, cap, rfl, fun j hj => ?_⟩
  obtain ⟨g, rfl⟩ := ha (by omega)
  obtain ⟨A, n, c, e, hI⟩ := hels j hj
  exact ⟨g, A, n, c, rfl, hlt g rfl, hold g rfl j _ e, hI⟩
theorem cell_two_at (w : World) (t : TypeId) (x y : Value) : ∀ (j : Nat) (u : Value), [x, y][j]? = some u → (w.alloc (.cells #[x, y] t)).cell? ((⟨w.heap.size, 0, none⟩ : Addr).add j) = some u := by
  intro j u hu
  rw [add_off, (Blk.new w t _).cell, Nat.zero_add]
  rcases j with _ | _ | j
  · simpa using hu
  · simpa using hu
  · simp at hu

/-- What a quotient and what is left leave: two boxes. -/
def QR (V : World) (Q R : Nat) (s1 s2 s3 : Value) (wx : World) : Prop :=
  ∃ g1 g2 B4 m4 d4 B5 m5 d5, s1 = .pointer (some ⟨g1, 0, none⟩) ∧ s2 = .pointer (some ⟨g2, 0, none⟩) ∧ s3 = .int .i64 0 ∧ Blk wx g1 26 #[.slice B4 m4 d4] ∧ Blk wx g2 26 #[.slice B5 m5 d5] ∧
    IsN wx (.agg #[.slice B4 m4 d4]) 400 Q ∧ IsN wx (.agg #[.slice B5 m5 d5]) 401 R ∧ Below V.heap.size V wx
section
variable {V x3 : World} {Q R : Nat} {B4 : Option Addr} {m4 d4 : Nat} {B5 : Option Addr} {m5 d5 : Nat}
theorem bel_drew' {B : Nat} {V W : World} (h : Below B V W) : Below B V W.drew := h.drew
theorem bel_set' {B g o : Nat} {V W : World} (h : Below B V W) (hp : B ≤ g) (u : Value) : Below B V (W.setCell ⟨g, o, none⟩ u) := h.setCell (p := ⟨g, o, none⟩) hp u
theorem qr_of {W : World} {g1 g2 : Nat} (hW : Below V.heap.size V W) (h1 : Blk W g1 26 #[.slice B4 m4 d4]) (h2 : Blk W g2 26 #[.slice B5 m5 d5]) (hQ : IsN W (.agg #[.slice B4 m4 d4]) 400 Q) (hR : IsN W (.agg #[.slice B5 m5 d5]) 401 R) :
    QR V Q R (.pointer (some ⟨g1, 0, none⟩)) (.pointer (some ⟨g2, 0, none⟩)) (.int .i64 0) W := ⟨_, _, _, _, _, _, _, _, rfl, rfl, rfl, h1, h2, hQ, hR, hW⟩
theorem qr_nn (hw : Below V.heap.size V x3) (hQ : IsN x3 (.agg #[.slice B4 m4 d4]) 400 Q) (hR : IsN x3 (.agg #[.slice B5 m5 d5]) 401 R) :
    QR V Q R (.pointer (some ⟨x3.heap.size, 0, none⟩)) (.pointer (some ⟨x3.heap.size + 1, 0, none⟩)) (.int .i64 0) ((x3.alloc (.cells #[.slice B4 m4 d4] 26)).alloc (.cells #[.slice B5 m5 d5] 26)) :=
  qr_of (bel_new (bel_new hw _) _) ((Blk.new x3 26 _).alloc _) (by have := Blk.new (x3.alloc (.cells #[.slice B4 m4 d4] 26)) 26 #[.slice B5 m5 d5]; simpa using this) ((hQ.alloc _).alloc _) ((hR.alloc _).alloc _)
theorem qr_nn' (hw : Below V.heap.size V x3) (hQ : IsN x3 (.agg #[.slice B4 m4 d4]) 400 Q) (hR : IsN x3 (.agg #[.slice B5 m5 d5]) 401 R) :
    QR V Q R (.pointer (some ⟨x3.heap.size + 1, 0, none⟩)) (.pointer (some ⟨x3.heap.size, 0, none⟩)) (.int .i64 0) ((x3.alloc (.cells #[.slice B5 m5 d5] 26)).alloc (.cells #[.slice B4 m4 d4] 26)) :=
  qr_of (bel_new (bel_new hw _) _) (by have := Blk.new (x3.alloc (.cells #[.slice B5 m5 d5] 26)) 26 #[.slice B4 m4 d4]; simpa using this) ((Blk.new x3 26 _).alloc _) ((hQ.alloc _).alloc _) ((hR.alloc _).alloc _)
theorem qr_on (hw : Below V.heap.size V x3) (hQ : IsN x3 (.agg #[.slice B4 m4 d4]) 400 Q) (hR : IsN x3 (.agg #[.slice B5 m5 d5]) 401 R) {p : Nat} {u : Value} (k : Blk x3 p 26 #[u]) (hp : V.heap.size ≤ p) :
    QR V Q R (.pointer (some ⟨p, 0, none⟩)) (.pointer (some ⟨x3.heap.size, 0, none⟩)) (.int .i64 0) ((x3.setCell ⟨p, 0, none⟩ (.slice B4 m4 d4)).alloc (.cells #[.slice B5 m5 d5] 26)) :=
  qr_of (bel_new (bel_set' hw hp _) _) ((k.set0 _).alloc _) (by have := Blk.new (x3.setCell ⟨p, 0, none⟩ (.slice B4 m4 d4)) 26 #[.slice B5 m5 d5]; simpa using this) ((hQ.far k 0 _).alloc _) ((hR.far k 0 _).alloc _)
theorem qr_no (hw : Below V.heap.size V x3) (hQ : IsN x3 (.agg #[.slice B4 m4 d4]) 400 Q) (hR : IsN x3 (.agg #[.slice B5 m5 d5]) 401 R) {p : Nat} {u : Value} (k : Blk x3 p 26 #[u]) (hp : V.heap.size ≤ p) :
    QR V Q R (.pointer (some ⟨x3.heap.size, 0, none⟩)) (.pointer (some ⟨p, 0, none⟩)) (.int .i64 0) ((x3.setCell ⟨p, 0, none⟩ (.slice B5 m5 d5)).alloc (.cells #[.slice B4 m4 d4] 26)) :=
  qr_of (bel_new (bel_set' hw hp _) _) (by have := Blk.new (x3.setCell ⟨p, 0, none⟩ (.slice B5 m5 d5)) 26 #[.slice B4 m4 d4]; simpa using this) ((k.set0 _).alloc _) ((hQ.far k 0 _).alloc _) ((hR.far k 0 _).alloc _)
theorem qr_oo (hw : Below V.heap.size V x3) (hQ : IsN x3 (.agg #[.slice B4 m4 d4]) 400 Q) (hR : IsN x3 (.agg #[.slice B5 m5 d5]) 401 R) {p q : Nat} {u v : Value} (k : Blk x3 p 26 #[u]) (hp : V.heap.size ≤ p) (k' : Blk x3 q 26 #[v]) (hq : V.heap.size ≤ q) (hne : q ≠ p) :
    QR V Q R (.pointer (some ⟨p, 0, none⟩)) (.pointer (some ⟨q, 0, none⟩)) (.int .i64 0) ((x3.setCell ⟨p, 0, none⟩ (.slice B4 m4 d4)).setCell ⟨q, 0, none⟩ (.slice B5 m5 d5)) :=
  have k2 := k'.far (p := ⟨p, 0, none⟩) hne (.slice B4 m4 d4)
  qr_of (bel_set' (bel_set' hw hp _) hq _) ((k.set0 _).far (p := ⟨q, 0, none⟩) (Ne.symm hne) _) (k2.set0 _) ((hQ.far k 0 _).far k2 0 _) ((hR.far k 0 _).far k2 0 _)
end
end Go.Proofs.YtobfhidajcnfdaaDoor
