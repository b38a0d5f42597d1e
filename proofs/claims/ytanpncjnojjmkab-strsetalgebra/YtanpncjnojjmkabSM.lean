/-
  slices.Contains at sides; leastSide; sides, and the iterator that it answers.
-/
import Derived.Test.YtanpncjnojjmkabSK
import Derived.Test.YtanpncjnojjmkabSMM
import Derived.RangeFuncBox
import Derived.RangeFuncNested
import Derived.RangeFuncLeaves
import Derived.Shelf.Abstract
import Derived.OwnWalkIn
import Derived.TacticsInMore
import Derived.LoopNIn
import Derived.LoopIn
import Derived.Sort.QuietIn
namespace Go.Proofs.Ytanpncjnojjmkab
set_option linter.unusedVariables false
set_option maxRecDepth 40000
open Go.RowKit Go.Shelf

attribute [local go_sem] Oper.semAt_some

/-- A slice of sides. -/
def IsI (w : World) (v : Value) (ks : List Int) : Prop := ∃ g c, v = .slice (some ⟨g, 0, none⟩) ks.length c ∧ g < w.heap.size ∧ ∀ i, i < ks.length → w.cell? ⟨g, i, none⟩ = some (.int .i64 (ks.getD i 0))
theorem IsI.below {w w' : World} {v : Value} {ks : List Int} (h : IsI w v ks) (hb : Below w.heap.size w w') : IsI w' v ks := by
  obtain ⟨g, c, e, h1, h2⟩ := h
  exact ⟨g, c, e, Nat.lt_of_lt_of_le h1 hb.size, fun i hi => (hb.cell (p := ⟨g, i, none⟩) h1).trans (h2 i hi)⟩
theorem take_int {l : List Int} {j : Nat} (h : j < l.length) : l.take (j + 1) = l.take j ++ [l.getD j 0] := by
  rw [List.take_succ_eq_append_getElem h]; simp [List.getD, h]

/-- What slices.Index answers of sides: a place, or -1. -/
def RetX (p : Prop) (w : World) (e : Ending) (w' : World) : Prop := w = w' ∧ ((p ∧ ∃ i : Nat, e = .returned (.int .i64 (i : Int))) ∨ (¬ p ∧ e = .returned (.int .i64 (-1))))
theorem index55_any (v : Value) (ks : List Int) (k : Int) (w : World) (h : IsI w v ks) (hl : ks.length ≤ 100) : Calls Try.prog 55 #[v, .int .i64 k] w (RetX (k ∈ ks) w) := by
  obtain ⟨g, c, rfl, hg, hcell⟩ := h
  obtain ⟨n, hln⟩ : ∃ n, Hid (ks.length = n) := ⟨_, rfl⟩
  rw [hln.out] at hl ⊢
  have HCL := Lib.hid hcell
  clear hcell
  go_enter Try.func55, Try.ntmps55
  go_wp2
  go_loop [5, 8] (fun _ t => ∃ i : Nat, t = .int .i64 i ∧ i ≤ n ∧ k ∉ ks.take i) (fun _ t => n - (intOf t).toNat)
  case atStart => exact ⟨0, rfl, by omega, by simp⟩
  case round =>
    obtain ⟨i, rfl, hin, hno⟩ := hrel
    have HN := Lib.hid hno
    clear hno
    by_cases hlt : i < n
    · have hil : i < ks.length := by rw [hln.out]; exact hlt
      have hc := HCL.out i hil
      have HT := Lib.hid (take_int hil)
      have hm : ks.getD i 0 ∈ ks := by
        simp only [List.getD_eq_getElem?_getD, List.getElem?_eq_getElem hil, Option.getD_some]
        exact List.getElem_mem hil
      obtain ⟨y, hy⟩ : ∃ y, Hid (ks.getD i 0 = y) := ⟨_, rfl⟩
      rw [hy.out] at hc HT hm
      by_cases he : k = y
      · subst he
        have HM := Lib.hid hm
        clear hm
        go_wp2
        go_ret
        exact ⟨rfl, .inl ⟨HM.out, i, rfl⟩⟩
      · have hne : (k == y) = false := by rw [beq_eq_false_iff_ne]; exact he
        go_wp2
        go_round
        case rel => exact ⟨i + 1, by go_num, by omega, by rw [HT.out, List.mem_append, List.mem_singleton]; exact fun h => h.elim HN.out he⟩
        case measure => simp [intOf]; omega
    · have hnot : k ∉ ks := by have := HN.out; rw [List.take_of_length_le (by rw [hln.out]; omega)] at this; exact this
      have HM := Lib.hid hnot
      clear hnot
      go_wp2
      go_ret
      exact ⟨rfl, .inr ⟨HM.out, rfl⟩⟩
theorem contains_any (v : Value) (ks : List Int) (k : Int) (w : World) (h : IsI w v ks) (hl : ks.length ≤ 100) : Calls Try.prog 40 #[v, .int .i64 k] w fun e w' => e = .returned (.bool (decide (k ∈ ks))) ∧ w = w' := by
  have HI := Lib.hid (index55_any v ks k w h hl)
  obtain ⟨g, c, rfl, hg, hcell⟩ := h
  clear hcell
  by_cases hk : k ∈ ks
  · rw [decide_eq_true hk]
    go_enter Try.func40, Try.ntmps40
    go_wp2_with fail
    refine HI.out.mono ?_
    rintro e w' ⟨rfl, ⟨_, i, rfl⟩ | ⟨hn, _⟩⟩
    · go_wp2
      go_ret
      exact ⟨rfl, rfl⟩
    · exact absurd hk hn
  · rw [decide_eq_false hk]
    go_enter Try.func40, Try.ntmps40
    go_wp2_with fail
    refine HI.out.mono ?_
    rintro e w' ⟨rfl, ⟨hy, _⟩ | ⟨_, rfl⟩⟩
    · exact absurd hy hk
    · go_wp2
      go_ret
      exact ⟨rfl, rfl⟩

theorem cmp_of_lt : ∀ {a b : Tx}, lt a b = true → Lib.compareBytes a b = -1
  | [], [], h => by simp [lt, Op.bytesLess] at h
  | [], _ :: _, _ => by simp [Lib.compareBytes]
  | _ :: _, [], h => by simp [lt, Op.bytesLess] at h
  | x :: a, y :: b, h => by
    simp only [lt, Op.bytesLess, Bool.or_eq_true, Bool.and_eq_true, decide_eq_true_eq, beq_iff_eq] at h
    unfold Lib.compareBytes
    rcases h with h | ⟨rfl, h⟩
    · rw [if_pos h]
    · rw [if_neg (UInt8.lt_irrefl _), if_neg (UInt8.lt_irrefl _)]
      exact cmp_of_lt h
theorem cmp_of_gt : ∀ {a b : Tx}, lt b a = true → Lib.compareBytes a b = 1
  | [], [], h => by simp [lt, Op.bytesLess] at h
  | [], _ :: _, h => by simp [lt, Op.bytesLess] at h
  | _ :: _, [], _ => by simp [Lib.compareBytes]
  | x :: a, y :: b, h => by
    simp only [lt, Op.bytesLess, Bool.or_eq_true, Bool.and_eq_true, decide_eq_true_eq, beq_iff_eq] at h
    unfold Lib.compareBytes
    rcases h with h | ⟨rfl, h⟩
    · rw [if_neg (fun h2 => UInt8.lt_irrefl _ (UInt8.lt_trans h h2)), if_pos h]
    · rw [if_neg (UInt8.lt_irrefl _), if_neg (UInt8.lt_irrefl _)]
      exact cmp_of_gt h

/-- Texts from some place on, below n₀. -/
def PartN (n₀ : Nat) (w : World) (A : Option Addr) (c : Nat) (l : List Tx) : Prop := l.length ≤ c ∧ ((A = none ∧ l = [] ∧ c = 0) ∨ ∃ ad, A = some ad ∧ ad.block < n₀ ∧ ∀ i, i < l.length → w.cell? (ad.add i) = some (.string ⟨(l.getD i []).toArray⟩))
theorem PartN.below {n₀ : Nat} {w w' : World} {A : Option Addr} {c : Nat} {l : List Tx} (h : PartN n₀ w A c l) (hb : Below n₀ w w') : PartN n₀ w' A c l := by
  refine ⟨h.1, ?_⟩
  rcases h.2 with h | ⟨ad, e, h1, h2⟩
  · exact .inl h
  · exact .inr ⟨ad, e, h1, fun i hi => (hb.cell (by rw [add_block]; exact h1)).trans (h2 i hi)⟩
theorem Part.at_n {w : World} {A : Option Addr} {c : Nat} {l : List Tx} (h : Part w A c l) : PartN w.heap.size w A c l := h
theorem PartN.drewN {n₀ q : Nat} {w : World} {A : Option Addr} {c : Nat} {l : List Tx} (h : PartN n₀ w A c l) : PartN n₀ (w.drewN q) A c l := h
/-- The first, and the others. -/
theorem PartN.next {n₀ : Nat} {w : World} {A : Option Addr} {c : Nat} {x : Tx} {l : List Tx} (h : PartN n₀ w A c (x :: l)) (hl : l.length ≤ 100000) : ∃ ad A', A = some ad ∧ w.cell? ad = some (.string ⟨x.toArray⟩) ∧ PartN n₀ w A' (c - 1) l ∧
    ∀ W, (Instr.slice 22 (.slice A (l.length + 1) c) (some (.int .i64 1)) none none).run Try.prog W = .ok (.slice A' l.length (c - 1)) W := by
  obtain ⟨h1, h2⟩ := h
  simp only [List.length_cons] at h1 h2
  rcases h2 with ⟨_, h3, _⟩ | ⟨ad, rfl, h3, h4⟩
  · cases h3
  · have h0 : ad.add 0 = ad := by unfold Addr.add; simp
    refine ⟨ad, if c = 1 then some ad else some (ad.add 1), rfl, by have := h4 0 (by omega); rw [h0] at this; exact this, ⟨by omega, .inr ?_⟩, fun W => ?_⟩
    · by_cases hc : c = 1
      · rw [if_pos hc]
        exact ⟨ad, rfl, h3, fun i hi => by omega⟩
      · rw [if_neg hc]
        refine ⟨ad.add 1, rfl, by rw [add_block]; exact h3, fun i hi => ?_⟩
        rw [add_add, Nat.add_comm 1 i]
        have := h4 (i + 1) (by omega)
        simpa using this
    · rw [run_slice_l W 22 (some ad) (l.length + 1) c Try.underlying22 .i64 1 (by omega) (by omega)]
      rw [show Try.prog.elem 22 = 9 by kernel_rfl, Try.sizeOf9]
      simp [Result.andThen, sliced]

/-- What leastSide answers. -/
def leastOf : List Tx → List Tx → Int
  | [], _ => 1
  | _ :: _, [] => -1
  | x :: _, y :: _ => Lib.compareBytes x y
theorem compare_q (a b : ByteArray) (w : World) : Calls Try.prog 28 #[.string a, .string b] w fun e w' => e = .returned (.int .i64 (Lib.compareBytes a.data.toList b.data.toList)) ∧ w' = w := (compare_any a b w).mono fun _ _ ⟨h1, h2⟩ => ⟨h1, h2.symm⟩
set_option maxHeartbeats 1000000 in
theorem least_any (n₀ : Nat) (A B : Option Addr) (ca cb : Nat) (a b : List Tx) (w : World) (ha : PartN n₀ w A ca a) (hb : PartN n₀ w B cb b) (hla : a.length ≤ 1000) (hlb : b.length ≤ 1000) :
    Calls Try.prog 42 #[.slice A a.length ca, .slice B b.length cb] w fun e w' => e = .returned (.int .i64 (leastOf a b)) ∧ ∃ q, w' = w.drewN q := by
  cases a with
  | nil =>
    go_enter Try.func42, Try.ntmps42
    go_wp2
    go_ret
    exact ⟨rfl, 0, rfl⟩
  | cons x a =>
    cases b with
    | nil =>
      simp only [List.length_cons] at hla ⊢
      generalize a.length = na at *
      go_enter Try.func42, Try.ntmps42
      go_wp2
      go_ret
      exact ⟨rfl, 0, rfl⟩
    | cons y b =>
      simp only [List.length_cons] at hla hlb ⊢
      obtain ⟨ad, _, rfl, hc1, _, _⟩ := ha.next (by omega)
      obtain ⟨bd, _, rfl, hc2, _, _⟩ := hb.next (by omega)
      have HC := Lib.hid fun W => compare_q ⟨x.toArray⟩ ⟨y.toArray⟩ W
      change Hid (∀ W, Calls Try.prog 28 #[.string ⟨x.toArray⟩, .string ⟨y.toArray⟩] W fun e w' => e = .returned (.int .i64 (leastOf (x :: a) (y :: b))) ∧ w' = W) at HC
      generalize leastOf (x :: a) (y :: b) = r at *
      clear ha hb
      generalize a.length = na at *
      generalize b.length = nb at *
      go_enter Try.func42, Try.ntmps42
      go_wp2
      go_quiet ((go_at_call 28; exact Calls.quiet_of_same (HC.out _)))
      go_wp2
      go_ret
      exact ⟨rfl, nq, rfl⟩

def slen : Value → Nat
  | .slice _ n _ => n
  | _ => 0
theorem grown_drewN (w : World) (q : Nat) : w.grownBy (w.drewN q) none := ⟨rfl, rfl, rfl, Nat.le_refl _, fun _ _ _ => rfl⟩
theorem below_dn' {n₀ : Nat} (w : World) (q : Nat) : Below n₀ w (w.drewN q) := ⟨rfl, rfl, rfl, Nat.le_refl _, fun _ _ => rfl⟩

/-- What is left of both. -/
def Left (n₀ : Nat) (la lb : List Tx) (J : List (Tx × Int) → World → Prop) (u v : Value) (w : World) : Prop :=
  ∃ (pre : List (Tx × Int)) (ra rb : List Tx) (A B : Option Addr) (ca cb : Nat), u = .slice A ra.length ca ∧ v = .slice B rb.length cb ∧ PartN n₀ w A ca ra ∧ PartN n₀ w B cb rb ∧ sidesOf la lb = pre ++ sidesOf ra rb ∧ ra.length ≤ 1000 ∧ rb.length ≤ 1000 ∧ J pre w

set_option maxHeartbeats 8000000 in
theorem sides1_in (n : Nat) (hn : 1 ≤ n) (l Bs Bt n₀ : Nat) (A B : Option Addr) (ca cb : Nat) (la lb : List Tx) (hla : la.length ≤ 1000) (hlb : lb.length ≤ 1000) (J Jx : List (Tx × Int) → World → Prop) (hJd : ∀ pre W q, J pre W → J pre (W.drewN q))
    (hY : ∀ pre x W, J pre W → pre.length < (sidesOf la lb).length → YieldAt Fence.wide (n - 1) Try.prog l #[.string ⟨x.1.toArray⟩, .int .i64 x.2] W fun e W' =>
      (e = .returned (.bool true) ∧ J (pre ++ [x]) W' ∧ Below n₀ W W') ∨ (e = .returned (.bool false) ∧ Jx (pre ++ [x]) W'))
    (W : World) (hBs : W.cell? ⟨Bs, 0, none⟩ = some (.slice A la.length ca)) (hBt : W.cell? ⟨Bt, 0, none⟩ = some (.slice B lb.length cb)) (hpa : PartN n₀ W A ca la) (hpb : PartN n₀ W B cb lb) (h0 : J [] W) :
    CallsIn Fence.wide n Try.prog 41 #[.func (.yield l) #[] #[], .pointer (some ⟨Bs, 0, none⟩), .pointer (some ⟨Bt, 0, none⟩)] W fun e W' => (∃ v, e = .returned v) ∧
      ((∃ ys, ys = sidesOf la lb ∧ J ys W') ∨ (∃ pre, pre <+: sidesOf la lb ∧ Jx pre W')) := by
  have HY := Lib.hid hY
  have HJ := Lib.hid hJd
  clear hY hJd
  refine callsIn_of_wp Try.func41 rfl trivial ?_ rfl
  simp only [Try.ntmps41, List.size_toArray, List.length_cons, List.length_nil, Nat.reduceAdd, Nat.reduceSub, Array.replicate_succ, Array.replicate_zero, List.push_toArray, List.append_toArray, List.nil_append, List.cons_append]
  gi_wp2
  gi_quiet (fail)
  gi_wp2
  gi_loopw [4, 5] (fun u4 u5 wr => Left n₀ la lb J u4 u5 wr) (fun u4 u5 _ => slen u4 + slen u5)
  case atStart => exact ⟨[], la, lb, A, B, ca, cb, rfl, rfl, hpa, hpb, rfl, hla, hlb, HJ.out _ _ _ h0⟩
  case round =>
    obtain ⟨pre, ra, rb, A', B', ca', cb', rfl, rfl, qa, qb, hsd, hra, hrb, hJs⟩ := hrel
    have HSD := Lib.hid hsd
    clear hsd hBs hBt hpa hpb h0
    have hL := Lib.hid (least_any n₀ A' B' ca' cb' ra rb wr qa qb hra hrb)
    cases ra with
    | nil =>
      cases rb with
      | nil =>
        gi_wp2
        go_end0
        exact ⟨⟨_, rfl⟩, .inl ⟨pre, by rw [HSD.out, sidesOf_nil]; simp, hJs⟩⟩
      | cons y rb =>
        --CASES
        obtain ⟨bd, B2, rfl, hcy, qb2, hslb⟩ := qb.next (by simp at hrb; omega)
        rw [show leastOf [] (y :: rb) = 1 from rfl] at hL
        simp only [List.length_cons] at hrb hL ⊢
        gi_wp2_with fail
        refine ⟨trivial, (callsIn_wide.2 hL.out).mono ?_⟩
        rintro e w1 ⟨rfl, q1, rfl⟩
        gi_wp2
        gi_quiet (fail)
        generalize nq = m7
        obtain ⟨fn, tmps, assign, body, hy, hR⟩ := HY.out pre (y, 1) (wr.drewN (q1 + m7)) (HJ.out _ _ _ hJs) (by rw [HSD.out, sidesOf_r, List.length_append, List.length_cons]; omega)
        dsimp only at hy
        gi_wp2
        refine hR.mono ?_
        rintro e W3 (⟨rfl, hJ3, hk3⟩ | ⟨rfl, hJx3⟩)
        · have hk4 : Below n₀ wr W3 := ⟨hk3.os, hk3.tape, hk3.output, hk3.size, hk3.block⟩
          gi_wp2
          go_roundw
          case rel => exact ⟨pre ++ [(y, 1)], [], rb, _, _, _, _, rfl, rfl, (qa).below hk4, (qb2).below hk4, by rw [HSD.out, sidesOf_r]; simp, by (try simp only [List.length_cons, List.length_nil]); omega, by (try simp only [List.length_cons, List.length_nil]); omega, hJ3⟩
          case measure => first | (simp [slen]; done) | (simp [slen]; omega)
        · gi_wp2
          refine bodyPost_ret (results_none rfl _ _ _) rfl ?_
          exact ⟨⟨_, rfl⟩, .inr ⟨_, ⟨_, by rw [HSD.out, sidesOf_r, List.append_assoc]; rfl⟩, hJx3⟩⟩
    | cons x ra =>
      obtain ⟨ad, A2, rfl, hcx, qa2, hsla⟩ := qa.next (by simp at hra; omega)
      cases rb with
      | nil =>
        rw [show leastOf (x :: ra) [] = -1 from rfl] at hL
        simp only [List.length_cons] at hra hL ⊢
        gi_wp2_with fail
        refine ⟨trivial, (callsIn_wide.2 hL.out).mono ?_⟩
        rintro e w1 ⟨rfl, q1, rfl⟩
        gi_wp2
        gi_quiet (fail)
        generalize nq = m5
        obtain ⟨fn, tmps, assign, body, hy, hR⟩ := HY.out pre (x, -1) (wr.drewN (q1 + m5)) (HJ.out _ _ _ hJs) (by rw [HSD.out, sidesOf_l, List.length_append, List.length_cons]; omega)
        dsimp only at hy
        gi_wp2
        refine hR.mono ?_
        rintro e W3 (⟨rfl, hJ3, hk3⟩ | ⟨rfl, hJx3⟩)
        · have hk4 : Below n₀ wr W3 := ⟨hk3.os, hk3.tape, hk3.output, hk3.size, hk3.block⟩
          gi_wp2
          go_roundw
          case rel => exact ⟨pre ++ [(x, -1)], ra, [], _, _, _, _, rfl, rfl, (qa2).below hk4, (qb).below hk4, by rw [HSD.out, sidesOf_l]; simp, by (try simp only [List.length_cons, List.length_nil]); omega, by (try simp only [List.length_cons, List.length_nil]); omega, hJ3⟩
          case measure => first | (simp [slen]; done) | (simp [slen]; omega)
        · gi_wp2
          refine bodyPost_ret (results_none rfl _ _ _) rfl ?_
          exact ⟨⟨_, rfl⟩, .inr ⟨_, ⟨_, by rw [HSD.out, sidesOf_l, List.append_assoc]; rfl⟩, hJx3⟩⟩
      | cons y rb =>
        obtain ⟨bd, B2, rfl, hcy, qb2, hslb⟩ := qb.next (by simp at hrb; omega)
        have hlo : leastOf (x :: ra) (y :: rb) = Lib.compareBytes x y := rfl
        rw [hlo] at hL
        clear hlo
        cases h1 : lt x y with
        | true =>
          rw [cmp_of_lt h1] at hL
          simp only [List.length_cons] at hra hrb hL ⊢
          gi_wp2_with fail
          refine ⟨trivial, (callsIn_wide.2 hL.out).mono ?_⟩
          rintro e w1 ⟨rfl, q1, rfl⟩
          gi_wp2
          gi_quiet (fail)
          generalize nq = m5
          obtain ⟨fn, tmps, assign, body, hy, hR⟩ := HY.out pre (x, -1) (wr.drewN (q1 + m5)) (HJ.out _ _ _ hJs) (by rw [HSD.out, sidesOf_lt ra rb h1, List.length_append, List.length_cons]; omega)
          dsimp only at hy
          gi_wp2
          refine hR.mono ?_
          rintro e W3 (⟨rfl, hJ3, hk3⟩ | ⟨rfl, hJx3⟩)
          · have hk4 : Below n₀ wr W3 := ⟨hk3.os, hk3.tape, hk3.output, hk3.size, hk3.block⟩
            gi_wp2
            go_roundw
            case rel => exact ⟨pre ++ [(x, -1)], ra, (y :: rb), _, _, _, _, rfl, rfl, (qa2).below hk4, (qb).below hk4, by rw [HSD.out, sidesOf_lt ra rb h1]; simp, by (try simp only [List.length_cons, List.length_nil]); omega, by (try simp only [List.length_cons, List.length_nil]); omega, hJ3⟩
            case measure => first | (simp [slen]; done) | (simp [slen]; omega)
          · gi_wp2
            refine bodyPost_ret (results_none rfl _ _ _) rfl ?_
            exact ⟨⟨_, rfl⟩, .inr ⟨_, ⟨_, by rw [HSD.out, sidesOf_lt ra rb h1, List.append_assoc]; rfl⟩, hJx3⟩⟩
        | false =>
          cases h2 : lt y x with
          | true =>
            rw [cmp_of_gt h2] at hL
            simp only [List.length_cons] at hra hrb hL ⊢
            gi_wp2_with fail
            refine ⟨trivial, (callsIn_wide.2 hL.out).mono ?_⟩
            rintro e w1 ⟨rfl, q1, rfl⟩
            gi_wp2
            gi_quiet (fail)
            generalize nq = m7
            obtain ⟨fn, tmps, assign, body, hy, hR⟩ := HY.out pre (y, 1) (wr.drewN (q1 + m7)) (HJ.out _ _ _ hJs) (by rw [HSD.out, sidesOf_gt ra rb h2, List.length_append, List.length_cons]; omega)
            dsimp only at hy
            gi_wp2
            refine hR.mono ?_
            rintro e W3 (⟨rfl, hJ3, hk3⟩ | ⟨rfl, hJx3⟩)
            · have hk4 : Below n₀ wr W3 := ⟨hk3.os, hk3.tape, hk3.output, hk3.size, hk3.block⟩
              gi_wp2
              go_roundw
              case rel => exact ⟨pre ++ [(y, 1)], (x :: ra), rb, _, _, _, _, rfl, rfl, (qa).below hk4, (qb2).below hk4, by rw [HSD.out, sidesOf_gt ra rb h2]; simp, by (try simp only [List.length_cons, List.length_nil]); omega, by (try simp only [List.length_cons, List.length_nil]); omega, hJ3⟩
              case measure => first | (simp [slen]; done) | (simp [slen]; omega)
            · gi_wp2
              refine bodyPost_ret (results_none rfl _ _ _) rfl ?_
              exact ⟨⟨_, rfl⟩, .inr ⟨_, ⟨_, by rw [HSD.out, sidesOf_gt ra rb h2, List.append_assoc]; rfl⟩, hJx3⟩⟩
          | false =>
            obtain rfl := lt_total x y h1 h2
            rw [cmp_self] at hL
            simp only [List.length_cons] at hra hrb hL ⊢
            gi_wp2_with fail
            refine ⟨trivial, (callsIn_wide.2 hL.out).mono ?_⟩
            rintro e w1 ⟨rfl, q1, rfl⟩
            gi_wp2
            gi_quiet (fail)
            generalize nq = m5
            gi_wp2
            gi_quiet (fail)
            generalize nq = m7
            obtain ⟨fn, tmps, assign, body, hy, hR⟩ := HY.out pre (x, 0) (wr.drewN (q1 + m5 + m7)) (HJ.out _ _ _ hJs) (by rw [HSD.out, sidesOf_eq, List.length_append, List.length_cons]; omega)
            dsimp only at hy
            gi_wp2
            refine hR.mono ?_
            rintro e W3 (⟨rfl, hJ3, hk3⟩ | ⟨rfl, hJx3⟩)
            · have hk4 : Below n₀ wr W3 := ⟨hk3.os, hk3.tape, hk3.output, hk3.size, hk3.block⟩
              gi_wp2
              go_roundw
              case rel => exact ⟨pre ++ [(x, 0)], ra, rb, _, _, _, _, rfl, rfl, (qa2).below hk4, (qb2).below hk4, by rw [HSD.out, sidesOf_eq]; simp, by (try simp only [List.length_cons, List.length_nil]); omega, by (try simp only [List.length_cons, List.length_nil]); omega, hJ3⟩
              case measure => first | (simp [slen]; done) | (simp [slen]; omega)
            · gi_wp2
              refine bodyPost_ret (results_none rfl _ _ _) rfl ?_
              exact ⟨⟨_, rfl⟩, .inr ⟨_, ⟨_, by rw [HSD.out, sidesOf_eq, List.append_assoc]; rfl⟩, hJx3⟩⟩

theorem sides_any (A B : Option Addr) (na ca nb cb : Nat) (w : World) : Calls Try.prog 31 #[.agg #[.slice A na ca], .agg #[.slice B nb cb]] w fun e w' => e = .returned (.func (.func 41) #[] #[.pointer (some ⟨w.heap.size, 0, none⟩), .pointer (some ⟨w.heap.size + 1, 0, none⟩)]) ∧ w' = (w.alloc (.cells #[.slice A na ca] 26)).alloc (.cells #[.slice B nb cb] 26) := by
  go_enter Try.func31, Try.ntmps31
  go_wp2
  go_ret
  exact ⟨rfl, rfl⟩
/-- sides(s, t) goes through both sets. -/
theorem sides_stops (n : Nat) (hn : 1 ≤ n) (Bs Bt n₀ : Nat) (A B : Option Addr) (ca cb : Nat) (la lb : List Tx) (hla : la.length ≤ 1000) (hlb : lb.length ≤ 1000) (w : World) (hn₀ : n₀ ≤ w.heap.size) (hBs : w.cell? ⟨Bs, 0, none⟩ = some (.slice A la.length ca)) (hBsl : Bs < w.heap.size)
    (hBt : w.cell? ⟨Bt, 0, none⟩ = some (.slice B lb.length cb)) (hBtl : Bt < w.heap.size) (hpa : PartN n₀ w A ca la) (hpb : PartN n₀ w B cb lb) :
    SeqStopsK Fence.wide n Try.prog 41 #[.pointer (some ⟨Bs, 0, none⟩), .pointer (some ⟨Bt, 0, none⟩)] (fun x : Tx × Int => #[.string ⟨x.1.toArray⟩, .int .i64 x.2]) (Below n₀) (fun ys => ys = sidesOf la lb) (fun pre => pre <+: sidesOf la lb) (sidesOf la lb).length w := fun l J Jx W hW hJ _ hY h0 =>
  sides1_in n hn l Bs Bt n₀ A B ca cb la lb hla hlb J Jx (fun pre W q h => hJ pre W (W.drewN q) none h (grown_drewN W q) (fun r e => by cases e)) hY W ((hW.cell (p := ⟨Bs, 0, none⟩) hBsl).trans hBs) ((hW.cell (p := ⟨Bt, 0, none⟩) hBtl).trans hBt) (hpa.below (hW.mono hn₀)) (hpb.below (hW.mono hn₀)) h0
end Go.Proofs.Ytanpncjnojjmkab
