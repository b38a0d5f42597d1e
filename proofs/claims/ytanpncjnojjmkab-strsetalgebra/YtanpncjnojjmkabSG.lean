/-
  The document's Sorted.
-/
import Derived.Test.YtanpncjnojjmkabSF
import Derived.Test.YtanpncjnojjmkabSGM
namespace Go.Proofs.Ytanpncjnojjmkab
set_option linter.unusedVariables false
set_option maxRecDepth 40000
open Go.RowKit

theorem grown_refl (w : World) (b : Option Nat) : w.grownBy w b := ⟨rfl, rfl, rfl, Nat.le_refl _, fun _ _ _ => rfl⟩
/-- An append of texts to a row of one's own. -/
theorem wpList_append_T {w : World} {ops : Array Oper} {rest : List Oper} {o : Oper} {a : Act} {Q : Exit → Act → World → Prop} (hgd : o.guard = none) (s x : Operand)
    (ho : o.op = .call { callee := .builtin .append, args := #[s, x], argTypes := #[22, 22] }) (base : Nat) (v : Value) (n : Nat) (xs : List Value) (hs : a.eval s = v) (hown : w.ownsRow base 9 1 v n xs)
    (vx : Value) (l : List Tx) (hx : a.eval x = vx) (ht : IsT w vx l) (hsz : n + l.length ≤ 1000000) (hbase : base ≤ w.heap.size)
    (h : ∀ v' w', w'.ownsRow base 9 1 v' (n + l.length) (xs ++ strC l) → w.grownBy w' v.ownBlock → wpList Try.prog ops Q rest (a.put o.dst v') w') : wpList Try.prog ops Q (o :: rest) a w := by
  obtain ⟨i0, hi, hz0, hz1, hz2⟩ := info_parts str_info
  rcases ht with ⟨rfl, rfl⟩ | ⟨g, c, cs, rfl, h1, h2, h3⟩
  · exact wpList_append_own_none hgd s x 22 ho base 9 i0 1 Try.underlying22 hi v n xs hs hown hx (h v w (by simpa [strC] using hown) (grown_refl _ _))
  · refine wpList_append_own w hgd s x 22 ho base 9 i0 (.string ⟨#[]⟩) 1 16 Try.underlying22 hi hz0 hz1 hz2 rfl (by decide) v n xs hs hown ⟨g, 0, none⟩ l.length c (strC l) hx (by rw [strC_length]; omega) (fun j u hu => ?_) (strC_one l) (by unfold maxLen; omega) (by omega) hbase fun v' w' q1 q2 _ => h v' w' q1 q2
    have hj : j < l.length := by
      rcases Nat.lt_or_ge j l.length with h4 | h4
      · exact h4
      · rw [List.getElem?_eq_none (by rw [strC_length]; exact h4)] at hu; cases hu
    rw [strC_get l hj] at hu
    rw [add_zero_block, h2.cell, h3 j hj, hu]
/-- An append of one text. -/
theorem wpList_append_1 {w : World} {ops : Array Oper} {rest : List Oper} {o : Oper} {a : Act} {Q : Exit → Act → World → Prop} (hgd : o.guard = none) (s x : Operand)
    (ho : o.op = .call { callee := .builtin .append, args := #[s, x], argTypes := #[22, 22] }) (base : Nat) (v : Value) (l : List Tx) (hs : a.eval s = v) (hown : w.ownsRow base 9 1 v l.length (strC l))
    (y : Tx) (g : Nat) (hx : a.eval x = .slice (some ⟨g, 0, none⟩) 1 1) (hc : w.cell? ⟨g, 0, none⟩ = some (.string ⟨y.toArray⟩)) (hsz : l.length + 1 ≤ 1000000) (hbase : base ≤ w.heap.size)
    (h : ∀ v' w', w'.ownsRow base 9 1 v' (l ++ [y]).length (strC (l ++ [y])) → w.grownBy w' v.ownBlock → wpList Try.prog ops Q rest (a.put o.dst v') w') : wpList Try.prog ops Q (o :: rest) a w := by
  obtain ⟨i0, hi, hz0, hz1, hz2⟩ := info_parts str_info
  refine wpList_append_own w hgd s x 22 ho base 9 i0 (.string ⟨#[]⟩) 1 16 Try.underlying22 hi hz0 hz1 hz2 rfl (by decide) v l.length (strC l) hs hown ⟨g, 0, none⟩ 1 1 [.string ⟨y.toArray⟩] hx rfl (fun j u hu => ?_) (by simp [Value.oneCell']) (by unfold maxLen; omega) (by omega) hbase fun v' w' q1 q2 _ => h v' w' (by simpa [strC] using q1) q2
  rcases j with _ | j
  · simp at hu; rw [add_zero_block, hc, hu]
  · simp at hu

theorem own_empty2 (w : World) (o : Obj) : ((w.alloc o).alloc (.cells #[] 9)).ownsRow (w.heap.size + 1) 9 1 (.slice (some ⟨w.heap.size + 1, 0, none⟩) 0 0) 0 [] := by
  have h := own_empty (w.alloc o) 9
  have e : (w.alloc o).heap.size = w.heap.size + 1 := by simp
  rw [e] at h
  exact h
theorem IsT.at_ {w : World} {A : Option Addr} {n c : Nat} {l : List Tx} (h : IsT w (.slice A n c) l) {i : Nat} (hi : i < l.length) : ∃ g, A = some ⟨g, 0, none⟩ ∧ g < w.heap.size ∧ w.cell? ⟨g, i, none⟩ = some (.string ⟨(l.getD i []).toArray⟩) := by
  obtain ⟨A', c', e, _, h1⟩ := h.form
  injection e with e1 e2 e3
  rw [e1]
  exact h1 i hi
/-- A slice of small numbers. -/
def IsK (w : World) (v : Value) (ks : List Nat) : Prop := ∃ g c, v = .slice (some ⟨g, 0, none⟩) ks.length c ∧ g < w.heap.size ∧ ∀ i, i < ks.length → w.cell? ⟨g, i, none⟩ = some (.int .i64 (ks.getD i 0 : Nat))
theorem IsK.below {w w' : World} {v : Value} {ks : List Nat} (h : IsK w v ks) (hb : Below w.heap.size w w') : IsK w' v ks := by
  obtain ⟨g, c, e, h1, h2⟩ := h
  exact ⟨g, c, e, Nat.lt_of_lt_of_le h1 hb.size, fun i hi => (hb.cell (p := ⟨g, i, none⟩) h1).trans (h2 i hi)⟩
/-- Is it one of the first j? -/
def inK (ks : List Nat) (j k : Nat) : Bool := decide (k ∈ ks.take j)
theorem inK_step (ks : List Nat) (k : Nat) {j : Nat} (h : j < ks.length) : inK ks (j + 1) k = (inK ks j k || (ks.getD j 0 == k)) := by
  unfold inK
  have e : ks.getD j 0 = ks[j] := by simp [List.getD, h]
  rw [List.take_succ_eq_append_getElem h, Bool.eq_iff_iff, e, decide_eq_true_eq, Bool.or_eq_true, decide_eq_true_eq, beq_iff_eq, List.mem_append, List.mem_singleton, eq_comm (a := k) (b := ks[j])]
/-- It answers just those that are wanted, rising. -/
def RetR (a b : List Tx) (ks : List Nat) (w : World) (e : Ending) (w' : World) : Prop := ∃ v O, e = .returned v ∧ IsT w' v O ∧ Right a b ks O ∧ O.length ≤ a.length + b.length ∧ Below w.heap.size w w'

set_option maxHeartbeats 8000000 in
theorem sorted_any (va vb vk : Value) (a b : List Tx) (ks : List Nat) (w : World) (ha : IsT w va a) (hb : IsT w vb b) (hk : IsK w vk ks) (hla : a.length ≤ 50) (hlb : b.length ≤ 50) (hlk : ks.length ≤ 3) (hk4 : ∀ k ∈ ks, k < 4) :
    Calls Try.prog 10 #[va, vb, vk] w (RetR a b ks w) := by
  obtain ⟨Aa, ca, rfl, _, _⟩ := ha.form
  obtain ⟨Ab, cb, rfl, _, _⟩ := hb.form
  obtain ⟨gk, ck, rfl, hgk, hck⟩ := hk
  obtain ⟨na, hna⟩ : ∃ n, Hid (a.length = n) := ⟨_, rfl⟩
  obtain ⟨nb, hnb⟩ : ∃ n, Hid (b.length = n) := ⟨_, rfl⟩
  obtain ⟨nk, hnk⟩ : ∃ n, Hid (ks.length = n) := ⟨_, rfl⟩
  have hla' : na ≤ 50 := by rw [← hna.out]; exact hla
  have hlb' : nb ≤ 50 := by rw [← hnb.out]; exact hlb
  have hlk' : nk ≤ 3 := by rw [← hnk.out]; exact hlk
  rw [hna.out] at ha ⊢
  rw [hnb.out] at hb ⊢
  rw [hnk.out] at hck ⊢
  obtain ⟨ab, hab⟩ : ∃ l, Hid (a ++ b = l) := ⟨_, rfl⟩
  obtain ⟨nn, hnn⟩ : ∃ n, Hid (ab.length = n) := ⟨_, rfl⟩
  have hnn' : nn ≤ 100 := by rw [← hnn.out, ← hab.out, List.length_append]; omega
  have HCK := Lib.hid hck
  clear hck
  go_enter Try.func10, Try.ntmps10
  go_wp2_with (first
    | (at_builtin; refine wpList_append_T rfl (.tmp 19) (.tmp 20) rfl (w.heap.size + 1) _ 0 [] rfl (own_empty2 w _) _ a rfl (ha.below (below_step (below_new w _) (below_new _ _))) (by omega) (by simp) ?_; intro v1 w1 o1 g1; have y1 : Below (w.heap.size + 1) (w.alloc (.cells #[] 9)) w1 := ((Below.refl _ _).alloc (by simp) _).grown g1 (by simp) (fun k hk => ((own_empty2 w (.cells #[] 9)).lt k hk).1); clear g1)
    | (at_builtin; refine wpList_append_T rfl (.tmp 21) (.tmp 22) rfl (w.heap.size + 1) _ _ _ rfl o1 _ b rfl (hb.below (below_step (below_new w _) (y1.mono (by simp)))) (by omega) (by have := y1.size; simpa using this) ?_; intro v2 w2 o2 g2; have y2 : Below (w.heap.size + 1) (w.alloc (.cells #[] 9)) w2 := y1.grown g2 (by have := y1.size; simpa using this) (fun k hk => (o1.lt k hk).1); clear g2; have t2 : IsT w2 v2 ab := own_isT (B := w.heap.size + 1) (by rw [← hab.out]; simpa [strC] using o2); obtain ⟨A2, c2, hv2, _, _⟩ := t2.form; rw [hnn.out] at hv2; subst hv2; clear o2))
  have hT0 : IsT w2 (.slice (some ⟨w.heap.size, 0, none⟩) 0 0) [] := .inr ⟨w.heap.size, 0, #[], rfl, Nat.le_refl _, (Blk.new w 9 #[]).below y2 (by omega), fun i hi => absurd hi (Nat.not_lt_zero _)⟩
  have b2 : Below w.heap.size w w2 := below_step (below_new w _) (y2.mono (by simp))
  clear o1 y1 y2
  go_loopw [7, 25] (fun u7 t wr => ∃ (i : Nat) (O : List Tx), t = .int .i64 i ∧ i ≤ nn ∧ IsT wr u7 O ∧ Upto a b ks i O ∧ Below w2.heap.size w2 wr) (fun _ t _ => nn - (intOf t).toNat)
  case atStart => exact ⟨0, [], rfl, by omega, hT0, upto_start a b ks, Below.refl _ _⟩
  case round =>
    obtain ⟨i, O, rfl, hin, hTO, hUp, hbr⟩ := hrel
    obtain ⟨AO, cO, rfl, _, cellO⟩ := hTO.form
    have HUP := Lib.hid hUp
    have hOl : O.length ≤ 100 := by have := hUp.2.2; omega
    clear hUp
    by_cases hlt : i < nn
    · have hil : i < ab.length := by rw [hnn.out]; exact hlt
      have tr := t2.below hbr
      obtain ⟨g2, rfl, hg2, hc2⟩ := tr.at_ hil
      obtain ⟨s, hs⟩ : ∃ s, Hid (ab.getD i [] = s) := ⟨_, rfl⟩
      rw [hs.out] at hc2
      obtain ⟨pa, hpa⟩ : ∃ p, Hid (isIn a s = p) := ⟨_, rfl⟩
      obtain ⟨pb, hpb⟩ : ∃ p, Hid (isIn b s = p) := ⟨_, rfl⟩
      obtain ⟨po, hpo⟩ : ∃ p, Hid (isIn O s = p) := ⟨_, rfl⟩
      have HA := Lib.hid (hasRef_any _ a s wr (ha.below (below_step b2 hbr)) (by omega))
      have HB := Lib.hid (hasRef_any _ b s wr (hb.below (below_step b2 hbr)) (by omega))
      have HO := Lib.hid (hasRef_any _ O s wr hTO (by omega))
      rw [hpa.out] at HA
      rw [hpb.out] at HB
      rw [hpo.out] at HO
      clear cellO tr
      go_upto_if 31 with (go_at_call 22; (with_reducible refine HA.out.mono ?_); rintro e w' ⟨rfl, rfl⟩)
      go_cut [10] from 26 to 89 (fun c wx => c = .int .i64 ((if pa then 1 else 0 : Nat) : Int) ∧ wr = wx)
      case first =>
        cases pa
        · go_wp2
          go_meet
          exact ⟨rfl, rfl⟩
        · go_wp2
          go_meet
          exact ⟨rfl, rfl⟩
      case rest =>
        obtain ⟨rfl, rfl⟩ := hcut
        go_upto_if 36 with (go_at_call 22; (with_reducible refine HB.out.mono ?_); rintro e w' ⟨rfl, rfl⟩)
        go_cut [10] from 26 to 89 (fun c wx => c = .int .i64 (((if pa then 1 else 0) + (if pb then 2 else 0) : Nat) : Int) ∧ wr = wx)
        case first =>
          cases pa
          · cases pb
            · go_wp2
              go_meet
              exact ⟨rfl, rfl⟩
            · go_wp2
              go_meet
              exact ⟨rfl, rfl⟩
          · cases pb
            · go_wp2
              go_meet
              exact ⟨rfl, rfl⟩
            · go_wp2
              go_meet
              exact ⟨rfl, rfl⟩
        case rest =>
          obtain ⟨rfl, rfl⟩ := hcut
          have hkind : kindOf a b s = (if pa then 1 else 0) + (if pb then 2 else 0) := by unfold kindOf; rw [hpa.out, hpb.out]
          have hk3 : kindOf a b s ≤ 3 := by rw [hkind]; cases pa <;> cases pb <;> decide
          rw [← hkind]
          obtain ⟨kd, hkd⟩ : ∃ p, Hid (kindOf a b s = p) := ⟨_, rfl⟩
          rw [hkd.out] at hk3 ⊢
          clear hkind HA HB
          have bwr := below_step b2 hbr
          go_wp2
          go_loopw [11, 41] (fun c t wq => ∃ j : Nat, t = .int .i64 j ∧ j ≤ nk ∧ c = .bool (inK ks j kd) ∧ wr = wq) (fun _ t _ => nk - (intOf t).toNat)
          case atStart => exact ⟨0, rfl, by omega, by simp [inK], rfl⟩
          case round =>
            obtain ⟨j, rfl, hjn, rfl, rfl⟩ := hrel
            by_cases hjl : j < nk
            · have hjk : j < ks.length := by rw [hnk.out]; exact hjl
              have hcj := (bwr.cell (p := ⟨gk, j, none⟩) hgk).trans (HCK.out j hjl)
              have HST := Lib.hid (inK_step ks kd hjk)
              generalize ks.getD j 0 = k at *
              generalize inK ks j kd = pj at *
              cases pj
              · by_cases hkk : k = kd
                · subst hkk
                  go_wp2
                  go_roundw
                  case rel => exact ⟨j + 1, by go_num, by omega, by rw [HST.out]; simp, by trivial⟩
                  case measure => simp [intOf]; omega
                · have hne : ((k : Int) == (kd : Int)) = false := by rw [beq_eq_false_iff_ne]; omega
                  go_wp2
                  go_roundw
                  case rel => exact ⟨j + 1, by go_num, by omega, by rw [HST.out]; simp [hkk], by trivial⟩
                  case measure => simp [intOf]; omega
              · go_wp2
                go_roundw
                case rel => exact ⟨j + 1, by go_num, by omega, by rw [HST.out]; simp, by trivial⟩
                case measure => simp [intOf]; omega
            · have hwt : inK ks j kd = wanted a b ks s := by
                unfold inK wanted
                rw [List.take_of_length_le (by rw [hnk.out]; omega), hkd.out]
              rw [hwt]
              obtain ⟨pw, hpw⟩ : ∃ p, Hid (wanted a b ks s = p) := ⟨_, rfl⟩
              rw [hpw.out]
              clear hwt HCK
              have hskip : pw = false ∨ po = true → Hid (Upto a b ks (i + 1) O) := fun h => Lib.hid (upto_skip HUP.out (by rw [hab.out]; exact hil) (by rw [hab.out, hs.out, hpw.out, hpo.out]; exact h))
              cases pw
              · have HSK := hskip (.inl rfl)
                clear hskip HO
                go_wp2
                go_roundw
                case rel => exact ⟨i + 1, O, by go_num, by omega, hTO, HSK.out, hbr⟩
                case measure => simp [intOf]; omega
              · cases po
                · have hsO : s ∉ O := by have := hpo.out; simpa [isIn] using this
                  clear hskip
                  have hO1 := HUP.out.1
                  have HMORE : Hid (∀ N, (Rise N ∧ (∀ x, x ∈ N ↔ x ∈ O ∨ x = s) ∧ N.length ≤ O.length + 1) → Upto a b ks (i + 1) N) := Lib.hid fun N hN => upto_more HUP.out (by rw [hab.out]; exact hil) (by rw [hab.out, hs.out, hpw.out]) (by rw [hab.out, hs.out]; exact hN)
                  obtain ⟨no, hno⟩ : ∃ n, Hid (O.length = n) := ⟨_, rfl⟩
                  have hnol : no ≤ 100 := by rw [← hno.out]; exact hOl
                  rw [hno.out] at HO hTO ⊢
                  go_wp2_with (go_at_call 22; (with_reducible refine HO.out.mono ?_); rintro e w' ⟨rfl, rfl⟩)
                  generalize wr = W3 at *
                  go_loopw [14, 15, 62] (fun u14 c t wr => ∃ (j : Nat) (d : Bool) (N : List Tx), t = .int .i64 j ∧ j ≤ no ∧ c = .bool d ∧ wr.ownsRow W3.heap.size 9 1 u14 N.length (strC N) ∧ Put s O N j d ∧ Below W3.heap.size W3 wr) (fun _ _ t _ => no - (intOf t).toNat)
                  case atStart => exact ⟨0, false, [], rfl, by omega, rfl, own_empty W3 9, put_start s O, below_new W3 _⟩
                  case round =>
                    obtain ⟨j3, d, N, rfl, hj3, rfl, hown, hput, hbq⟩ := hrel
                    have hbqs := hbq.size
                    obtain ⟨A3, c3, rfl⟩ := own_form hown
                    have hN1 : N.length ≤ 101 := by have := hput.2.2.2.2.1; omega
                    have HPUT := Lib.hid hput
                    clear hput
                    by_cases hjo : j3 < no
                    · have hjO : j3 < O.length := by rw [hno.out]; exact hjo
                      obtain ⟨g3, hA3, hg3, hc3⟩ := (hTO.below hbq).at_ hjO
                      subst hA3
                      obtain ⟨y, hy⟩ : ∃ y, Hid (O.getD j3 [] = y) := ⟨_, rfl⟩
                      rw [hy.out] at hc3
                      have HNX : d = true ∨ lt s y = false → Hid (Put s O (N ++ [y]) (j3 + 1) d) := fun h => Lib.hid (by rw [← hy.out] at h ⊢; exact put_next HPUT.out hO1 hjO hsO h)
                      cases d
                      · cases hl : lt s y
                        · have HNX := HNX (.inr hl)
                          have hl' : Op.bytesLess s y = false := hl
                          clear hl
                          go_wp2_with (at_builtin; refine wpList_append_1 rfl (.tmp 77) (.tmp 79) rfl W3.heap.size _ N rfl (hown.alloc _) y wr.heap.size rfl (Blk.new wr 9 _).cell0 (by omega) (by simp; omega) ?_; intro v' w3 o3 gr3; have hb3 : Below W3.heap.size W3 w3 := (hbq.alloc hbqs _).grown gr3 (by simp; omega) (fun k hk => (hown.lt k hk).1); clear gr3)
                          go_roundw
                          case rel => exact ⟨j3 + 1, false, N ++ [y], by go_num, by omega, rfl, o3, HNX.out, hb3⟩
                          case measure => simp [intOf]; omega
                        · have HHR : Hid (Put s O ((N ++ [s]) ++ [y]) (j3 + 1) true) := Lib.hid (by
                            have h1 := put_here HPUT.out hO1 hjO (by rw [hy.out]; exact hl)
                            have h2 := put_next h1 hO1 hjO hsO (.inl rfl)
                            rw [hy.out] at h2
                            exact h2)
                          have hl' : Op.bytesLess s y = true := hl
                          clear hl HNX
                          go_wp2_with (first
                            | (at_builtin; refine wpList_append_1 rfl (.tmp 73) (.tmp 75) rfl W3.heap.size _ N rfl (hown.alloc _) s wr.heap.size rfl (Blk.new wr 9 _).cell0 (by omega) (by simp; omega) ?_; intro v' w3 o3 gr3; have hb3 : Below W3.heap.size W3 w3 := (hbq.alloc hbqs _).grown gr3 (by simp; omega) (fun k hk => (hown.lt k hk).1); clear gr3)
                            | (at_builtin; refine wpList_append_1 rfl (.tmp 77) (.tmp 79) rfl W3.heap.size _ (N ++ [s]) rfl (o3.alloc _) y w3.heap.size rfl (Blk.new w3 9 _).cell0 (by simp; omega) (by have := hb3.size; simp; omega) ?_; intro v' w4 o4 gr4; have hb4 : Below W3.heap.size W3 w4 := (hb3.alloc hb3.size _).grown gr4 (by have := hb3.size; simp; omega) (fun k hk => (o3.lt k hk).1); clear gr4))
                          go_roundw
                          case rel => exact ⟨j3 + 1, true, (N ++ [s]) ++ [y], by go_num, by omega, rfl, o4, HHR.out, hb4⟩
                          case measure => simp [intOf]; omega
                      · have HNX := HNX (.inl rfl)
                        go_wp2_with (at_builtin; refine wpList_append_1 rfl (.tmp 77) (.tmp 79) rfl W3.heap.size _ N rfl (hown.alloc _) y wr.heap.size rfl (Blk.new wr 9 _).cell0 (by omega) (by simp; omega) ?_; intro v' w3 o3 gr3; have hb3 : Below W3.heap.size W3 w3 := (hbq.alloc hbqs _).grown gr3 (by simp; omega) (fun k hk => (hown.lt k hk).1); clear gr3)
                        go_roundw
                        case rel => exact ⟨j3 + 1, true, N ++ [y], by go_num, by omega, rfl, o3, HNX.out, hb3⟩
                        case measure => simp [intOf]; omega
                    · have hje : j3 = O.length := by rw [hno.out]; omega
                      cases d
                      · have HF : Hid (Upto a b ks (i + 1) (N ++ [s])) := Lib.hid (HMORE.out _ (put_last (by rw [← hje]; exact HPUT.out)))
                        clear hje HMORE
                        go_wp2_with (at_builtin; refine wpList_append_1 rfl (.tmp 84) (.tmp 86) rfl W3.heap.size _ N rfl (hown.alloc _) s wr.heap.size rfl (Blk.new wr 9 _).cell0 (by omega) (by simp; omega) ?_; intro v' w3 o3 gr3; have hb3 : Below W3.heap.size W3 w3 := (hbq.alloc hbqs _).grown gr3 (by simp; omega) (fun k hk => (hown.lt k hk).1); clear gr3)
                        go_roundw
                        case rel => exact ⟨i + 1, N ++ [s], by go_num, by omega, own_isT o3, HF.out, below_step hbr hb3⟩
                        case measure => simp [intOf]; omega
                      · have HF : Hid (Upto a b ks (i + 1) N) := Lib.hid (HMORE.out _ (put_end (by rw [← hje]; exact HPUT.out)))
                        clear hje HMORE
                        go_wp2
                        go_roundw
                        case rel => exact ⟨i + 1, N, by go_num, by omega, own_isT hown, HF.out, below_step hbr hbq⟩
                        case measure => simp [intOf]; omega
                · have HSK := hskip (.inr rfl)
                  clear hskip
                  go_wp2_with (go_at_call 22; (with_reducible refine HO.out.mono ?_); rintro e w' ⟨rfl, rfl⟩)
                  go_roundw
                  case rel => exact ⟨i + 1, O, by go_num, by omega, hTO, HSK.out, hbr⟩
                  case measure => simp [intOf]; omega
    · have HR : Hid (Right a b ks O) := Lib.hid (upto_end HUP.out (by rw [hab.out, hnn.out]; omega))
      have hOn : O.length ≤ a.length + b.length := by
        have h1 := HUP.out.2.2
        have h2 := hnn.out
        rw [← hab.out, List.length_append] at h2
        omega
      clear cellO
      go_wp2
      go_ret
      exact ⟨_, O, rfl, hTO, HR.out, hOn, below_step b2 hbr⟩
end Go.Proofs.Ytanpncjnojjmkab
