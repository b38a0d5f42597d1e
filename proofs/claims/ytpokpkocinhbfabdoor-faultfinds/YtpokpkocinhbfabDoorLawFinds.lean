/-
  The walk of the law on errors.Is and errors.As.
-/
import Derived.Test.YtpokpkocinhbfabDoorK
import Derived.Test.YtpokpkocinhbfabDoorM
import Derived.Deep.DeepCutAuto
import Derived.Deep.CutRange
namespace Go.Proofs.YtpokpkocinhbfabDoor
set_option linter.unusedVariables false
set_option maxRecDepth 20000
open Go.RowKit Go.Extern.Stop Go.Stop Go.Extern

theorem hasHit_take {l : List Lk} {k : Nat} {x : Lk} {o : Option Int} (h : l[k]? = some x) : hasHit o (l.take (k + 1)) = (hasHit o (l.take k) || hit o x.code) := by
  induction l generalizing k with
  | nil => simp at h
  | cons y r ih =>
    cases k with
    | zero => simp at h; subst h; simp [hasHit]
    | succ k =>
      simp at h
      have := ih h
      simp only [hasHit, List.take_succ_cons, List.any_cons] at this ⊢
      rw [this, Bool.or_assoc]

theorem add_zero' (a : Addr) : a.add 0 = a := by simp [Addr.add]
theorem hasHit_none (l : List Lk) : hasHit none l = false := by
  induction l with
  | nil => rfl
  | cons y r ih => simp [hasHit, hit]

set_option maxHeartbeats 8000000 in
theorem faultFinds_walk (A : Option Addr) (n c : Nat) (l0 : List Lk) (q0 : Int) (w : World) (he : Env w) (h0 : CameL w A n c l0) : Calls Tryd.prog 5 #[.slice A n c, .int .i64 q0] w (RetV (.bool true) w) := by
  obtain ⟨l, hl, hf, hcs, FW⟩ := h0.few
  have FW := Lib.hid FW
  have HC := Lib.hid hcs
  have hqr := fewCode_in q0
  clear h0 hf hcs
  go_enter Tryd.func5, Tryd.ntmps5
  go_wp2_with fail
  refine (awake_any w he).mono ?_
  rintro e w1 ⟨rfl, b1⟩
  go_wp2_with fail
  refine (FW.out _ b1).mono ?_
  rintro e w2 ⟨u, rfl, hrow, b2⟩
  have b2 := below_step b1 b2
  obtain ⟨A2, c2, rfl, hL⟩ := own_links hrow
  clear FW b1 hrow
  go_wp2_with fail
  refine (chain_any A2 c2 l _ hL (by omega)).mono ?_
  rintro e w3 ⟨v, rfl, hCh, b3⟩
  have hL := hL.kept b3
  have b3 := below_step b2 b3
  have hl1 : l.length ≤ 1000 := by omega
  have hsh : v = .nilIface ∨ ∃ q, v = .iface 36 q := by
    cases l with
    | nil => exact .inl hCh
    | cons x r => obtain ⟨g, d, e, _⟩ := hCh; exact .inr ⟨_, e⟩
  clear b2
  go_upto_region 6 with fail
  have hqe : wrap64 (1 + (wrap64 (q0.tmod 16 + 16)).tmod 16) = fewCode q0 := rfl
  rw [hqe]
  clear hqe
  generalize fewCode q0 = q at *
  go_wp2_with fail
  go_loopg [6, 23] l.length (fun m hs i wx => ∃ k : Nat, k + m = l.length ∧ i = .int .i64 k ∧ hs = .bool (hasHit (some q) (l.take k)) ∧ Below w3.heap.size w3 wx)
  case atStart => exact ⟨0, by omega, rfl, rfl, Below.refl _ _⟩
  case round =>
    obtain ⟨k, hk, rfl, rfl, hb1⟩ := hrel
    by_cases hlt : k < l.length
    · obtain ⟨x, hx⟩ : ∃ x, l[k]? = some x := ⟨_, List.getElem?_eq_getElem hlt⟩
      obtain ⟨ad, rfl, c0, c1, c2⟩ := (hL.kept hb1).three hx
      have HT := Lib.hid (hasHit_take (o := some q) hx)
      have HK := Lib.hid hk
      clear hx hk
      generalize hasHit (some q) (l.take k) = hs at *
      cases hs with
      | true =>
        go_wp2
        go_roundg (l.length - (k + 1))
        case measure => have := HK.out; omega
        case rel => exact ⟨k + 1, by omega, by go_num, by rw [HT.out]; rfl, bel_new hb1 _⟩
      | false =>
        go_wp2
        go_roundg (l.length - (k + 1))
        case measure => have := HK.out; omega
        case rel => exact ⟨k + 1, by omega, by go_num, by rw [HT.out]; rfl, bel_new hb1 _⟩
    · have hm : l.take k = l := List.take_of_length_le (by omega)
      rw [hm]
      clear hm hk
      generalize wr = V at *
      have hC := hCh.kept hb1
      have hL := hL.kept hb1
      have bV := below_step b3 hb1
      have hq1 : (q == 0) = false := by
        have : q ≠ 0 := by omega
        simp [this]
      clear hb1 b3 hCh
      go_wp2_with fail
      refine (of_any q _ hq1).mono ?_
      rintro e w4 ⟨rfl, hw4⟩
      have hS4 : Sought w4 V.heap.size (some q) := by rw [← hw4]; exact Blk.new V 38 _
      have y4 := below_new V (.cells #[.int .i64 q, .int .i64 0, .string ⟨#[]⟩, .nilIface] 38)
      rw [hw4] at y4
      clear hw4
      go_wp2_with fail
      refine (errIs_any v l _ (some q) V w4 hC y4 (Nat.le_refl _) hS4).mono ?_
      rintro e w5 ⟨rfl, rfl⟩
      generalize hasHit (some q) l = hs at *
      have hC4 := hC.kept y4
      have hne : (hs != hs) = false := by cases hs <;> rfl
      go_wp2_with fail
      refine (at_any q 4 _ _ hq1).mono ?_
      rintro e w5 ⟨rfl, hw5⟩
      have hS5 : Sought w5 w4.heap.size none := by rw [← hw5]; exact ⟨q, Blk.new w4 38 _⟩
      have y5 := below_new w4 (.cells #[.int .i64 q, .int .i64 4, .string ⟨#[101, 108, 115, 101, 119, 104, 101, 114, 101]⟩, .nilIface] 38)
      rw [hw5] at y5
      clear hw5
      go_wp2_with fail
      refine (errIs_any v l _ none w4 w5 hC4 y5 (Nat.le_refl _) hS5).mono ?_
      rintro e w6 ⟨rfl, rfl⟩
      rw [hasHit_none]
      have y5 := below_step y4 y5
      have hC := hC.kept y5
      have hL := hL.kept y5
      have bV := below_step bV y5
      clear y4 y5 hS4 hS5 hC4 hne
      have hT := Blk.new w5 36 #[.pointer none]
      have yT := below_new w5 (.cells #[.pointer none] 36)
      have hCT := hC.kept yT
      have bT := below_step bV yT
      go_wp2_with fail
      cases l with
      | nil =>
        obtain rfl : v = .nilIface := hC
        refine (as_nil _ _).mono ?_
        rintro e w6 ⟨rfl, rfl⟩
        have ct : (w5.alloc (.cells #[.pointer none] 36)).cell? ⟨w5.heap.size, 0, none⟩ = some (.pointer none) := hT.cell 0
        generalize w5.alloc (.cells #[.pointer none] 36) = W at *
        clear hsh hL hCT hT hlt HC
        go_wp2_with fail
        refine (new_any _ _).mono ?_
        rintro e w7 ⟨rfl, hw7⟩
        have y7 := below_new W (.cells #[.string ⟨#[120]⟩] 88)
        rw [hw7] at y7
        have b7 := below_step bT y7
        clear hw7 y7
        go_wp2_with fail
        refine (code_new _ _ (he.kept b7).1).mono ?_
        rintro e w8 ⟨rfl, y8⟩
        have b8 := below_step b7 y8
        go_wp2_with fail
        refine (new_any _ _).mono ?_
        rintro e w9 ⟨rfl, hw9⟩
        have y9 := below_new w8 (.cells #[.string ⟨#[120]⟩] 88)
        rw [hw9] at y9
        have b9 := below_step b8 y9
        clear hw9 y9
        go_wp2_with fail
        refine (line_new _ _).mono ?_
        rintro e w10 ⟨rfl, rfl⟩
        go_wp2_with fail
        refine (new_any _ _).mono ?_
        rintro e w10 ⟨rfl, hw10⟩
        have y10 := below_new w9 (.cells #[.string ⟨#[120]⟩] 88)
        rw [hw10] at y10
        have b10 := below_step b9 y10
        clear hw10 y10
        go_wp2_with fail
        refine (notes_new _ _).mono ?_
        rintro e w11 ⟨rfl, rfl⟩
        go_wp2
        go_ret
        exact ⟨rfl, b10⟩
      | cons x r =>
        obtain ⟨g, d, rfl, hk1, _⟩ := hC
        refine (as_fault g w5.heap.size (.pointer none) _ (he.kept bT).1 hT (by have := hk1.lt; simp; omega)).mono ?_
        rintro e W ⟨rfl, hTW, hbW⟩
        have yW := (below_new w5 (.cells #[.pointer none] 36)).trans (hbW _ (Nat.le_refl _))
        have bW := below_step bV yW
        have hkW := hk1.on yW
        have hLW := hL.kept yW
        obtain ⟨ad, rfl, m0, m1, m2⟩ := hLW.three (i := 0) (x := x) rfl
        have hx1 := HC.out x (by simp)
        have hcz : (x.code == 0) = false := by
          have : x.code ≠ 0 := by omega
          simp [this]
        clear hT yT hCT bT hbW yW hk1 hL bV hsh hlt HC
        have hlen : ((x :: r).length : Int) ≤ 1000 := by omega
        have hpos : 0 < (x :: r).length := by simp
        generalize hN : (x :: r).length = N at *
        clear hN
        go_upto_region 19 with fail
        have hk0 : ∀ W', Below W.heap.size W W' → W'.cell? ⟨w5.heap.size, 0, none⟩ = some (.pointer (some ⟨g, 0, none⟩)) ∧ W'.cell? ⟨g, 0, none⟩ = some (.int .i64 x.code) ∧ W'.cell? ⟨g, 1, none⟩ = some (.int .i64 x.line) ∧ W'.cell? ⟨g, 2, none⟩ = some (.string x.note) ∧ W'.cell? ad = some (.int .i64 x.code) ∧ W'.cell? ⟨ad.block, ad.off + 1, none⟩ = some (.int .i64 x.line) ∧ W'.cell? ⟨ad.block, ad.off + 2, none⟩ = some (.string x.note) := fun W' hb => by
          obtain ⟨ad', e, q0, q1, q2⟩ := (hLW.kept hb).three (i := 0) (x := x) rfl
          obtain rfl := Option.some.inj e
          simp only [Nat.zero_mul, add_zero'] at q0 q1 q2
          exact ⟨(hTW.on hb).cell 0, (hkW.on hb).cell 0, (hkW.on hb).cell 1, (hkW.on hb).cell 2, q0, q1, q2⟩
        have HK := Lib.hid hk0
        have tok1 : True := trivial
        have tok2 : True := trivial
        have tok3 : True := trivial
        have tok4 : True := trivial
        clear m0 m1 m2 hk0 FW hLW hC hL y5 bV
        go_region_held3 (fun w' => w'.cell? ⟨w5.heap.size, 0, none⟩ = some (.pointer (some ⟨g, 0, none⟩)) ∧ w'.cell? ⟨g, 0, none⟩ = some (.int .i64 x.code) ∧ w'.cell? ⟨g, 1, none⟩ = some (.int .i64 x.line) ∧ w'.cell? ⟨g, 2, none⟩ = some (.string x.note) ∧ w'.cell? ad = some (.int .i64 x.code) ∧ w'.cell? ⟨ad.block, ad.off + 1, none⟩ = some (.int .i64 x.line) ∧ w'.cell? ⟨ad.block, ad.off + 2, none⟩ = some (.string x.note))
          (first | exact HK.out _ (below_drew _) | exact HK.out _ hw1 | exact HK.out _ hw3)
          (first
            | (go_at_call 24; have _t := tok1; clear tok1; refine (of_any x.code _ hcz).mono ?_; rintro e x1 ⟨rfl, hx1⟩; have hS1 : Blk x1 W.heap.size 38 #[.int .i64 x.code, .int .i64 0, .string ⟨#[]⟩, .nilIface] := (by rw [← hx1]; exact Blk.new W.drew 38 _); have hw1 : Below W.heap.size W x1 := (by rw [← hx1]; exact below_step (below_drew _) (below_new _ _)); clear hx1)
            | (go_at_call 28; have _t := tok2; clear tok2; refine (is_some g _ x.code x.code _ _ _ _ (hkW.on hw1) hS1).mono ?_; rintro e x2 ⟨rfl, rfl⟩)
            | (go_at_call 27; have _t := tok3; clear tok3; refine (new_any _ _).mono ?_; rintro e x3 ⟨rfl, hx3⟩; have hw3 : Below W.heap.size W x3 := (by rw [← hx3]; exact below_step hw1 (below_new _ _)); clear hx3)
            | (go_at_call 28; have _t := tok4; clear tok4; refine (is_new g _ _).mono ?_; rintro e x4 ⟨rfl, rfl⟩))
        go_wp2
        go_ret
        exact ⟨rfl, below_step bW hw3⟩
end Go.Proofs.YtpokpkocinhbfabDoor
