/-
  What the laws' frames tell of their arguments; the law NatBits.
-/
import Derived.Test.YthionbkdlmiaoaaAwake
import Derived.Test.YthionbkdlmiaoaaSince
import Derived.OpenShut
namespace Go.Proofs.Ythionbkdlmiaoaa
set_option linter.unusedVariables false
open Go.RowKit

/-- A slice of 32 bit numbers that came in, as naturals. -/
theorem row_of_ints {w : World} {a : Option Addr} {len cap : Nat} {zs : List Int}
    (h : (a = none ∧ len = 0 ∧ cap = 0 ∧ zs = []) ∨
      ∃ x, a = some x ∧ len ≤ cap ∧ cap ≤ maxLen ∧ zs.length = cap ∧ (∀ i, i < zs.length → w.cell? (x.add i) = some (.int .u32 (zs.getD i 0))) ∧ ∀ n ∈ zs, (Lit.int .u32 n).wf = true) :
    ∃ l : List Nat, l.length = len ∧ Row .u32 w a l ∧ (∀ n ∈ l, n < 4294967296) ∧ len ≤ cap := by
  rcases h with ⟨rfl, rfl, rfl, rfl⟩ | ⟨x, rfl, hlc, _, hz, hc, hw⟩
  · exact ⟨[], rfl, Row.empty, by simp, Nat.le_refl _⟩
  · have hlen : ((zs.take len).map Int.toNat).length = len := by simp; omega
    refine ⟨(zs.take len).map Int.toNat, hlen, fun hne => ⟨x, rfl, ?_, fun i hi => ?_⟩, fun n hn => ?_, hlc⟩
    · have h0 : 0 < zs.length := by have := List.length_pos_iff.2 hne; omega
      have := World.block_lt_of_cell? w _ (hc 0 h0)
      rwa [add_block] at this
    · rw [hlen] at hi
      rw [hc i (by omega)]
      have hiz : i < zs.length := by omega
      have hb := bounds_u32 (hw zs[i] (List.getElem_mem hiz))
      have e1 : zs.getD i 0 = zs[i] := by simp [List.getD, hiz]
      have e2 : ((zs.take len).map Int.toNat).getD i 0 = zs[i].toNat := by simp [List.getD, hi, hiz]
      rw [e1, e2, Int.toNat_of_nonneg hb.1]
    · simp only [List.mem_map] at hn
      obtain ⟨z, hz1, rfl⟩ := hn
      have hb := bounds_u32 (hw z (List.mem_of_mem_take hz1))
      omega

/-- A slice that came in, cut to 40: what a law makes of it. -/
structure Came (w : World) (a : Option Addr) (len cap : Nat) (l : List Nat) : Prop where
  len_eq : l.length = len
  row : Row .u32 w a l
  lt : ∀ n ∈ l, n < 4294967296
  le : len ≤ cap

/-- What 'Few' makes of it, in whatever world that keeps it. -/
theorem Came.few {w : World} {a : Option Addr} {len cap : Nat} {l : List Nat} (h : Came w a len cap l) :
    ∃ t : List Nat, t.length ≤ 40 ∧ (∀ n ∈ t, n < 4294967296) ∧ Hid (∀ w', Below w.heap.size w w' → Calls Try.prog 13 #[.slice a len cap] w' (RetL 47 .u32 t w')) :=
  ⟨l.take 40, by rw [List.length_take]; omega, fun n hn => h.3 n (List.mem_of_mem_take hn), fun w' hb => few_any a len cap l w' h.1 (h.2.below hb) h.4⟩

set_option maxHeartbeats 2000000 in
theorem natBits_walk (a0 : Option Addr) (len0 cap0 : Nat) (l0 : List Nat) (a1 : Option Addr) (len1 cap1 : Nat) (l1 : List Nat) (w : World) (h0 : Came w a0 len0 cap0 l0) (h1 : Came w a1 len1 cap1 l1) :
    Calls Try.prog 7 #[.slice a0 len0 cap0, .slice a1 len1 cap1] w (RetV (.bool true) w) := by
  obtain ⟨t0, ht0, hl0, F0⟩ := h0.few
  obtain ⟨t1, ht1, hl1, F1⟩ := h1.few
  go_enter Try.func7, Try.ntmps7
  go_wp2_with fail
  refine (awake_any _).mono ?_
  rintro e w1 ⟨rfl, b1⟩
  go_wp2_with fail
  refine (F0.out _ b1).mono ?_
  rintro e w2 ⟨v2, rfl, ⟨A2, c2, rfl, hr2, hc2⟩, b2⟩
  have b2 := below_step b1 b2
  go_wp2_with fail
  refine (limbs_any A2 c2 _ _ hr2.row hl0 (by omega)).mono ?_
  rintro e w3 ⟨v3, rfl, hN, b3⟩
  have b3' := below_step b2 b3
  have hN3 := hN.more ht0
  obtain ⟨A3, n3, c3, rfl⟩ := hN.shape
  go_wp2_with fail
  refine (F1.out _ b3').mono ?_
  rintro e w4 ⟨v4, rfl, ⟨A4, c4, rfl, hr4, hc4⟩, b4⟩
  go_wp2_with fail
  refine (limbs_any A4 c4 _ _ hr4.row hl1 (by omega)).mono ?_
  rintro e w5 ⟨v5, rfl, hM, b5⟩
  have hM5 := hM.more ht1
  obtain ⟨A5, n5, c5, rfl⟩ := hM.shape
  have hN5 := (hN3.below b4).below b5
  have b5' := below_step (below_step b3' b4) b5
  generalize val 4294967296 t0 = N at *
  generalize val 4294967296 t1 = M at *
  clear hN hM hN3 hr2 hr4 b1 b2 b3 b3' b4 b5
  go_wp2_with fail
  refine (compare_any _ _ 40 40 N M _ ((hN5.alloc _).alloc _) ((hM5.alloc _).alloc _) (by decide) (by decide)).mono ?_
  rintro e w6 ⟨rfl, b6⟩
  have hX : Blk w6 w5.heap.size 26 #[.slice A3 n3 c3] := ((Blk.new w5 26 _).alloc _).on b6
  have hY : Blk w6 (w5.heap.size + 1) 26 #[.slice A5 n5 c5] := by
    have := (Blk.new (w5.alloc (Obj.cells #[Value.slice A3 n3 c3] 26)) 26 #[.slice A5 n5 c5]).on b6
    simpa using this
  have hN6 := ((hN5.alloc _).alloc _).below b6
  have hM6 := ((hM5.alloc _).alloc _).below b6
  have b6' := below_step (below_step (below_step b5' (below_new _ _)) (below_new _ _)) b6
  clear b6 b5' hN5 hM5
  have BX := Lib.hid (fun (w' : World) (hb : Below w6.heap.size w6 w') => bits_any _ 40 N w' (hN6.below hb) (by decide))
  have BY := Lib.hid (fun (w' : World) (hb : Below w6.heap.size w6 w') => bits_any _ 40 M w' (hM6.below hb) (by decide))
  have AD := Lib.hid (fun (w' : World) (hb : Below w6.heap.size w6 w') => add_any _ _ 40 40 N M w' (hN6.below hb) (hM6.below hb) (by decide) (by decide))
  have hp1 : bl N < bl M → cmpN N M = -1 := fun h => cmpN_lt (by rcases Nat.lt_or_ge N M with h1 | h1; exact h1; have := bl_mono h1; omega)
  have hp2 : bl M < bl N → cmpN N M = 1 := fun h => cmpN_gt (by rcases Nat.lt_or_ge M N with h1 | h1; exact h1; have := bl_mono h1; omega)
  have hp3 : cmpN N M = 0 → bl N = bl M := fun h => by rw [cmpN_zero.1 h]
  have hs1 : max (bl N) (bl M) ≤ bl (N + M) := by
    have h1 := bl_mono (Nat.le_add_right N M)
    have h2 := bl_mono (Nat.le_add_left M N)
    omega
  have hs2 : bl (N + M) ≤ max (bl N) (bl M) + 1 := by
    have h1 := (bl_spec N (max (bl N) (bl M))).1 (by omega)
    have h2 := (bl_spec M (max (bl N) (bl M))).1 (by omega)
    rw [bl_spec, Nat.pow_succ]; omega
  have hcn := cmpN_cases N M
  have hpb := hN6.bl_le
  have hqb := hM6.bl_le
  generalize bl N = p at *
  generalize bl M = q at *
  obtain ⟨r, hr⟩ : ∃ r, r = bl (N + M) := ⟨_, rfl⟩
  rw [← hr] at hs1 hs2
  have HR := Lib.hid hr
  clear hr h0 h1 F0 F1 hc2 hc4 hl0 hl1 ht0 ht1
  generalize cmpN N M = cn at *
  have kx := fun x : Since w6 => hX.since x
  have ky := fun x : Since w6 => hY.since x
  have hcx := hX.cell0
  have hcy := hY.cell0
  have H5 : (p < q ∧ cn = -1) ∨ (q < p ∧ cn = 1) ∨ (p = q ∧ cn = -1) ∨ (p = q ∧ cn = 0) ∨ (p = q ∧ cn = 1) := by
    rcases Nat.lt_trichotomy p q with h | h | h
    · exact .inl ⟨h, hp1 h⟩
    · rcases hcn with h1 | h1 | h1
      · exact .inr (.inr (.inl ⟨h, h1⟩))
      · exact .inr (.inr (.inr (.inl ⟨h, h1⟩)))
      · exact .inr (.inr (.inr (.inr ⟨h, h1⟩)))
    · exact .inr (.inl ⟨h, hp2 h⟩)
  clear hp1 hp2 hp3 hcn
  have hm1 : decide (max (p : Int) (q : Int) ≤ (r : Int)) = true := by simp; omega
  have hm2 : decide ((r : Int) ≤ max (p : Int) (q : Int) + 1) = true := by simp; omega
  have Q1 := Lib.hid hm1
  have Q2 := Lib.hid hm2
  clear hm1 hm2 hs1 hs2
  rcases H5 with ⟨hpq, rfl⟩ | ⟨hpq, rfl⟩ | ⟨rfl, rfl⟩ | ⟨rfl, rfl⟩ | ⟨rfl, rfl⟩
  · have d1 : decide (q < p) = false := by simp; omega
    go_wp2
    refine wp_region_since (by kernel_rfl) (by kernel_rfl) ?_
    repeat (go_big_quiet_step ((first | (go_at_call_of 28 (Value.agg #[Value.slice A3 n3 c3]); exact since_call (BX.out _ (Since.kept _))) | (go_at_call 28; exact since_call (BY.out _ (Since.kept _))))))
    refine wpQuiet_nil ?_
    rintro _ ⟨⟨w7, b7⟩, rfl⟩
    have hcx7 := (hX.on b7).cell0
    have hcy7 := (hY.on b7).cell0
    clear kx ky hcx hcy
    go_wp2_with fail
    refine (AD.out _ b7).mono ?_
    rintro e w8 ⟨v8, rfl, h8, b8⟩
    go_wp2_with fail
    refine (bits_any v8 _ _ _ h8 (by decide)).mono ?_
    rintro e w9 ⟨rfl, b9⟩
    rw [← HR.out]
    have b9' := below_step (below_step b7 b8) b9
    have kx := fun x : Since w9 => (hX.on b9').since x
    have ky := fun x : Since w9 => (hY.on b9').since x
    have hm1 := Q1.out
    have hm2 := Q2.out
    clear hcx7 hcy7
    go_wp2_with fail
    refine wp_region_since (by kernel_rfl) (by kernel_rfl) ?_
    repeat (go_big_quiet_step ((first | (go_at_call_of 28 (Value.agg #[Value.slice A3 n3 c3]); exact since_call (BX.out _ (below_step b9' (Since.kept _)))) | (go_at_call 28; exact since_call (BY.out _ (below_step b9' (Since.kept _)))))))
    refine wpQuiet_nil ?_
    rintro _ ⟨⟨w10, b10⟩, rfl⟩
    go_wp2
    go_ret
    exact ⟨rfl, below_step (below_step b6' b9') b10⟩
  · have d1 : decide (p < q) = false := by simp; omega
    go_wp2
    refine wp_region_since (by kernel_rfl) (by kernel_rfl) ?_
    repeat (go_big_quiet_step ((first | (go_at_call_of 28 (Value.agg #[Value.slice A3 n3 c3]); exact since_call (BX.out _ (Since.kept _))) | (go_at_call 28; exact since_call (BY.out _ (Since.kept _))))))
    refine wpQuiet_nil ?_
    rintro _ ⟨⟨w7, b7⟩, rfl⟩
    have hcx7 := (hX.on b7).cell0
    have hcy7 := (hY.on b7).cell0
    clear kx ky hcx hcy
    go_wp2_with fail
    refine (AD.out _ b7).mono ?_
    rintro e w8 ⟨v8, rfl, h8, b8⟩
    go_wp2_with fail
    refine (bits_any v8 _ _ _ h8 (by decide)).mono ?_
    rintro e w9 ⟨rfl, b9⟩
    rw [← HR.out]
    have b9' := below_step (below_step b7 b8) b9
    have kx := fun x : Since w9 => (hX.on b9').since x
    have ky := fun x : Since w9 => (hY.on b9').since x
    have hm1 := Q1.out
    have hm2 := Q2.out
    clear hcx7 hcy7
    go_wp2_with fail
    refine wp_region_since (by kernel_rfl) (by kernel_rfl) ?_
    repeat (go_big_quiet_step ((first | (go_at_call_of 28 (Value.agg #[Value.slice A3 n3 c3]); exact since_call (BX.out _ (below_step b9' (Since.kept _)))) | (go_at_call 28; exact since_call (BY.out _ (below_step b9' (Since.kept _)))))))
    refine wpQuiet_nil ?_
    rintro _ ⟨⟨w10, b10⟩, rfl⟩
    go_wp2
    go_ret
    exact ⟨rfl, below_step (below_step b6' b9') b10⟩
  all_goals
    go_wp2
    refine wp_region_since (by kernel_rfl) (by kernel_rfl) ?_
    repeat (go_big_quiet_step ((first | (go_at_call_of 28 (Value.agg #[Value.slice A3 n3 c3]); exact since_call (BX.out _ (Since.kept _))) | (go_at_call 28; exact since_call (BY.out _ (Since.kept _))))))
    refine wpQuiet_nil ?_
    rintro _ ⟨⟨w7, b7⟩, rfl⟩
    have hcx7 := (hX.on b7).cell0
    have hcy7 := (hY.on b7).cell0
    clear kx ky hcx hcy
    go_wp2_with fail
    refine (AD.out _ b7).mono ?_
    rintro e w8 ⟨v8, rfl, h8, b8⟩
    go_wp2_with fail
    refine (bits_any v8 _ _ _ h8 (by decide)).mono ?_
    rintro e w9 ⟨rfl, b9⟩
    rw [← HR.out]
    have b9' := below_step (below_step b7 b8) b9
    have kx := fun x : Since w9 => (hX.on b9').since x
    have ky := fun x : Since w9 => (hY.on b9').since x
    have hm1 : decide (p ≤ r) = true := by have := Q1.out; simp at this ⊢; omega
    have hm2 : decide ((r : Int) ≤ (p : Int) + 1) = true := by have := Q2.out; simp at this ⊢; omega
    clear hcx7 hcy7
    go_wp2_with fail
    refine wp_region_since (by kernel_rfl) (by kernel_rfl) ?_
    repeat (go_big_quiet_step ((first | (go_at_call_of 28 (Value.agg #[Value.slice A3 n3 c3]); exact since_call (BX.out _ (below_step b9' (Since.kept _)))) | (go_at_call 28; exact since_call (BY.out _ (below_step b9' (Since.kept _)))))))
    refine wpQuiet_nil ?_
    rintro _ ⟨⟨w10, b10⟩, rfl⟩
    go_wp2
    go_ret
    exact ⟨rfl, below_step (below_step b6' b9') b10⟩
end Go.Proofs.Ythionbkdlmiaoaa
