/-
  The walk of the law on the order of texts.
-/
import Derived.Test.YtpokpkocinhbfaaDoorPutB
import Derived.Test.YtpokpkocinhbfaaDoorLawA
import Derived.Test.YtpokpkocinhbfaaDoorSince
import Derived.Deep.RegionHeld3
namespace Go.Proofs.YtpokpkocinhbfaaDoor
set_option linter.unusedVariables false
set_option maxRecDepth 20000
open Go.RowKit

theorem less_self : ∀ a : List UInt8, Op.bytesLess a a = false
  | [] => rfl
  | x :: r => by simp [Op.bytesLess, less_self r, UInt8.lt_irrefl]
theorem less_asymm : ∀ {a b : List UInt8}, Op.bytesLess a b = true → Op.bytesLess b a = false
  | _, [], h => by simp [Op.bytesLess] at h
  | [], _ :: _, _ => rfl
  | x :: a, y :: b, h => by
    simp only [Op.bytesLess, Bool.or_eq_true, decide_eq_true_eq, Bool.and_eq_true, beq_iff_eq] at h
    simp only [Op.bytesLess, Bool.or_eq_false_iff, decide_eq_false_iff_not, Bool.and_eq_false_iff]
    rcases h with h | ⟨rfl, h⟩
    · exact ⟨UInt8.not_lt.2 (UInt8.le_of_lt h), .inl (by simp only [beq_eq_false_iff_ne, ne_eq]; rintro rfl; exact UInt8.lt_irrefl _ h)⟩
    · exact ⟨UInt8.lt_irrefl _, .inr (less_asymm h)⟩
theorem less_append : ∀ {a b : List UInt8} (x y : List UInt8), a.length = b.length → Op.bytesLess a b = true → Op.bytesLess (a ++ x) (b ++ y) = true
  | _, [], _, _, _, h => by simp [Op.bytesLess] at h
  | [], _ :: _, _, _, hl, _ => by simp at hl
  | p :: a, q :: b, x, y, hl, h => by
    simp only [Op.bytesLess, Bool.or_eq_true, decide_eq_true_eq, Bool.and_eq_true, beq_iff_eq, List.cons_append] at h ⊢
    rcases h with h | ⟨rfl, h⟩
    · exact .inl h
    · exact .inr ⟨rfl, less_append x y (by simpa using hl) h⟩
theorem less_last : ∀ (a : List UInt8) {d e : UInt8}, d < e → Op.bytesLess (a ++ [d]) (a ++ [e]) = true
  | [], d, e, h => by simp [Op.bytesLess, h]
  | x :: a, d, e, h => by simp [Op.bytesLess, less_last a h]
theorem digit_lt {d e : Nat} (h : d < e) (he : e < 10) : UInt8.ofNat (48 + d) < UInt8.ofNat (48 + e) := by
  rw [UInt8.lt_iff_toNat_lt, UInt8.toNat_ofNat', UInt8.toNat_ofNat']
  omega
theorem dec_pos (N : Nat) : 1 ≤ (Lib.decDigits N).length := by rw [Lib.decDigits]; split <;> simp
theorem dec_less : ∀ {N M : Nat}, N < M → (Lib.decDigits N).length < (Lib.decDigits M).length ∨ ((Lib.decDigits N).length = (Lib.decDigits M).length ∧ Op.bytesLess (Lib.decDigits N) (Lib.decDigits M) = true) := by
  intro N M
  induction M using Nat.strongRecOn generalizing N with
  | _ M ih =>
    intro h
    by_cases hM : M < 10
    · have hN : N < 10 := by omega
      rw [Lib.decDigits_one hM, Lib.decDigits_one hN]
      exact .inr ⟨rfl, less_last [] (digit_lt h hM)⟩
    · have eM : Lib.decDigits M = Lib.decDigits (M / 10) ++ [UInt8.ofNat (48 + M % 10)] := by rw [Lib.decDigits, dif_neg hM]
      by_cases hN : N < 10
      · rw [Lib.decDigits_one hN, eM]
        have := dec_pos (M / 10)
        exact .inl (by simp; omega)
      · have eN : Lib.decDigits N = Lib.decDigits (N / 10) ++ [UInt8.ofNat (48 + N % 10)] := by rw [Lib.decDigits, dif_neg hN]
        rw [eM, eN]
        by_cases hd : N / 10 < M / 10
        · rcases ih (M / 10) (by omega) hd with h1 | ⟨h1, h2⟩
          · exact .inl (by simp; omega)
          · exact .inr ⟨by simp [h1], less_append _ _ h1 h2⟩
        · have : N / 10 = M / 10 := by omega
          rw [this]
          exact .inr ⟨by simp, less_last _ (digit_lt (by omega) (by omega))⟩

theorem keep2b {W w' : World} {g1 g2 : Nat} {a b : Value} (h1 : Blk W g1 26 #[a]) (h2 : Blk W g2 26 #[b]) (hb : Below W.heap.size W w') : w'.cell? ⟨g1, 0, none⟩ = some a ∧ w'.cell? ⟨g2, 0, none⟩ = some b := ⟨(h1.on hb).cell0, (h2.on hb).cell0⟩

set_option maxHeartbeats 4000000 in
theorem digitsOrder_walk (a0 : Option Addr) (len0 cap0 : Nat) (l0 : List Nat) (a1 : Option Addr) (len1 cap1 : Nat) (l1 : List Nat) (w : World) (he : Env w) (h0 : Came w a0 len0 cap0 l0) (h1 : Came w a1 len1 cap1 l1) :
    Calls Tryd.prog 7 #[.slice a0 len0 cap0, .slice a1 len1 cap1] w (RetV (.bool true) w) := by
  obtain ⟨t0, ht0, hl0, F0⟩ := h0.few
  obtain ⟨t1, ht1, hl1, F1⟩ := h1.few
  clear h0 h1
  go_enter Tryd.func7, Tryd.ntmps7
  go_wp2_with fail
  refine (awake03_any _ he).mono ?_
  rintro e w1 ⟨rfl, b1⟩
  go_wp2_with fail
  refine (F0.out _ b1).mono ?_
  rintro e w2 ⟨v2, rfl, ⟨A0, c0, rfl, hr0, hc0⟩, b2⟩
  have b2 := below_step b1 b2
  go_wp2_with fail
  refine (limbs_any A0 c0 _ _ hr0.row hl0 (by omega)).mono ?_
  rintro e w3 ⟨v3, rfl, hN3, b3⟩
  obtain ⟨B0, m0, d0, rfl⟩ := hN3.shape
  have hN := hN3.more ht0
  have b3 := below_step b2 b3
  go_wp2_with fail
  refine (F1.out _ b3).mono ?_
  rintro e w4 ⟨v4, rfl, ⟨A1, c1, rfl, hr1, hc1⟩, b4⟩
  have hN := hN.below b4
  have b4 := below_step b3 b4
  go_wp2_with fail
  refine (limbs_any A1 c1 _ _ hr1.row hl1 (by omega)).mono ?_
  rintro e w5 ⟨v5, rfl, hM5, b5⟩
  obtain ⟨B1, m1, d1, rfl⟩ := hM5.shape
  have hM := hM5.more ht1
  have hN := hN.below b5
  have b5 := below_step b4 b5
  generalize val 4294967296 t0 = N at *
  generalize val 4294967296 t1 = M at *
  have hX : Blk ((w5.alloc (.cells #[.slice B0 m0 d0] 26)).alloc (.cells #[.slice B1 m1 d1] 26)) w5.heap.size 26 #[.slice B0 m0 d0] := (Blk.new w5 26 _).alloc _
  have hY : Blk ((w5.alloc (.cells #[.slice B0 m0 d0] 26)).alloc (.cells #[.slice B1 m1 d1] 26)) (w5.heap.size + 1) 26 #[.slice B1 m1 d1] := by
    have := Blk.new (w5.alloc (.cells #[.slice B0 m0 d0] 26)) 26 #[.slice B1 m1 d1]
    simpa using this
  have hN := (hN.alloc (.cells #[.slice B0 m0 d0] 26)).alloc (.cells #[.slice B1 m1 d1] 26)
  have hM := (hM.alloc (.cells #[.slice B0 m0 d0] 26)).alloc (.cells #[.slice B1 m1 d1] 26)
  have bW := bel_new (bel_new b5 (.cells #[.slice B0 m0 d0] 26)) (.cells #[.slice B1 m1 d1] 26)
  clear b1 b2 b3 b4 b5 hr0 hr1 F0 F1 hN3 hM5 hl0 hl1
  go_wp2_with fail
  generalize (w5.alloc (.cells #[.slice B0 m0 d0] 26)).alloc (.cells #[.slice B1 m1 d1] 26) = W at *
  have tok1 : True := trivial
  have tok2 : True := trivial
  go_region_held3 (fun w' => w'.cell? ⟨w5.heap.size, 0, none⟩ = some (.slice B0 m0 d0) ∧ w'.cell? ⟨w5.heap.size + 1, 0, none⟩ = some (.slice B1 m1 d1))
    (first | exact keep2b hX hY (below_drew _) | exact keep2b hX hY hw1 | exact keep2b hX hY hw2)
    (first
      | (go_at_call 12; have _t := tok1; clear tok1; refine (text_any _ 40 N _ (hN.below (below_drew _)) (by decide) (he.kept (below_step bW (below_drew _)))).mono ?_; rintro e x1 ⟨rfl, y1⟩; have hw1 : Below W.heap.size W x1 := below_step (below_drew _) y1)
      | (go_at_call 12; have _t := tok2; clear tok2; refine (text_any _ 40 M _ (hM.below hw1) (by decide) (he.kept (below_step bW hw1))).mono ?_; rintro e x2 ⟨rfl, y2⟩; have hw2 : Below W.heap.size W x2 := below_step hw1 y2))
  have hX2 := hX.on hw2
  have hY2 := hY.on hw2
  have hN2 := hN.below hw2
  have hM2 := hM.below hw2
  have b2 := below_step bW hw2
  have hcx := hX2.cell0
  have hcy := hY2.cell0
  clear hX hY hN hM bW hw1 hw2 y1 y2
  have CMP := Lib.hid (compare_any _ _ 40 40 N M _ hN2 hM2 (by decide) (by decide))
  rcases Nat.lt_trichotomy N M with hlt | heq | hgt
  · rw [cmpN_lt hlt] at CMP
    rcases dec_less hlt with hl | ⟨hl, hb⟩
    · generalize Lib.decDigits N = ds at *
      generalize Lib.decDigits M = es at *
      go_wp2_with fail
      refine CMP.out.mono ?_
      rintro e x3 ⟨rfl, y3⟩
      go_wp2
      go_ret
      exact ⟨rfl, below_step b2 y3⟩
    · generalize Lib.decDigits N = ds at *
      generalize Lib.decDigits M = es at *
      go_wp2_with fail
      refine CMP.out.mono ?_
      rintro e x3 ⟨rfl, y3⟩
      go_wp2
      go_ret
      exact ⟨rfl, below_step b2 y3⟩
  · subst heq
    rw [cmpN_eq] at CMP
    have hs := less_self (Lib.decDigits N)
    generalize Lib.decDigits N = ds at *
    go_wp2_with fail
    refine CMP.out.mono ?_
    rintro e x3 ⟨rfl, y3⟩
    go_wp2
    go_ret
    exact ⟨rfl, below_step b2 y3⟩
  · rw [cmpN_gt hgt] at CMP
    rcases dec_less hgt with hl | ⟨hl, hb⟩
    · generalize Lib.decDigits N = ds at *
      generalize Lib.decDigits M = es at *
      go_wp2_with fail
      refine CMP.out.mono ?_
      rintro e x3 ⟨rfl, y3⟩
      go_wp2
      go_ret
      exact ⟨rfl, below_step b2 y3⟩
    · have hb' := less_asymm hb
      generalize Lib.decDigits N = ds at *
      generalize Lib.decDigits M = es at *
      have hne : (ds == es) = false := by rw [beq_eq_false_iff_ne]; rintro rfl; rw [less_self] at hb; cases hb
      go_wp2_with fail
      refine CMP.out.mono ?_
      rintro e x3 ⟨rfl, y3⟩
      go_wp2
      go_ret
      exact ⟨rfl, below_step b2 y3⟩
end Go.Proofs.YtpokpkocinhbfaaDoor
