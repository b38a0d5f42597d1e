/-
  utf.appendBytes: its contract.
-/
import Derived.Test.YtccbofaefpbhlaaDoorUH
import Derived.Deep.RegionLaw
namespace Go.Proofs.YtccbofaefpbhlaaDoor.Utf
set_option linter.unusedVariables false
set_option maxRecDepth 20000
open Go.RowKit Go.Lib

theorem byte_info : (Tryd.prog.info? 5).map (fun i => (i.zero, i.size, i.bytes)) = some (some (.int .u8 0), 1, 1) := by kernel_rfl

/-- append to a row of one's own, as one step of a region that draws. -/
theorem step_append_own {P : Program} {ops : Array Oper} {o : Oper} {a : Act} {w : World} {K : Act → World → Prop} {Q : Exit → Act → World → Prop} {E : Prop} (hgd : o.guard = none) (s x : Operand) (t : TypeId)
    (ho : o.op = .call { callee := .builtin .append, args := #[s, x], argTypes := #[t, t] })
    (base : Nat) (e : TypeId) (i : TypeInfo) (z : Value) (size bytes : Nat) (ht : P.underlying t = some (.slice e)) (hi : P.info? e = some i) (hz : i.zero = some z)
    (hsize : i.size = size) (hby : i.bytes = bytes) (hzs : z.cells.size = size) (hsz : 0 < size)
    (v : Value) (n : Nat) (xs : List Value) (hs : a.eval s = v) (hown : w.ownsRow base e size v n xs)
    (ad : Addr) (m c : Nat) (news : List Value) (hx : a.eval x = .slice (some ad) m c) (hl : news.length = m * size) (hnews : ∀ j u, news[j]? = some u → w.cell? (ad.add j) = some u) (h1 : ∀ u ∈ news, u.oneCell' = true)
    (h63 : n + m ≤ maxLen) (hbytes : (n + m) * bytes ≤ 140737488355328) (hbase : base ≤ w.heap.size)
    (h : ∀ v' w', w'.ownsRow base e size v' (n + m) (xs ++ news) → w.grownBy w' v.ownBlock → K (a.put o.dst v') w') : if Region.wanted o (yielded ops a.tmps) = true then Oper.wp P o a w K Q else E := by
  have hw : Region.wanted o (yielded ops a.tmps) = true := by simp [Region.wanted, hgd]
  rw [if_pos hw]
  exact wp_append_own w s x t ho base e i z size bytes ht hi hz hsize hby hzs hsz v n xs hs hown ad m c news hx hl hnews h1 h63 hbytes hbase fun v' w' h2 h3 _ => h v' w' h2 h3

/-- The first byte, and those behind it. -/
theorem enc_first (c : Nat) : enc c = UInt8.ofNat (markW (wid c) + c / 64 ^ (wid c - 1)) :: (enc c).drop 1 := by
  by_cases h1 : c < 128
  · have hw : wid c = 1 := by simp [wid, h1]
    rw [hw, enc1 h1]; simp [markW]
  by_cases h2 : c < 2048
  · have hw : wid c = 2 := by simp [wid, h1, h2]
    rw [hw, enc2 h1 h2]; simp [markW]
  by_cases h3 : c < 65536
  · have hw : wid c = 3 := by simp [wid, h1, h2, h3]
    rw [hw, enc3 h1 h2 h3]; simp [markW]
  · have hw : wid c = 4 := by simp [wid, h1, h2, h3]
    rw [hw, enc4 h1 h2 h3]; simp [markW]
theorem enc_next (c j : Nat) (h0 : 1 ≤ j) (hj : j < wid c) : (enc c)[j]? = some (UInt8.ofNat (128 + c / 64 ^ (wid c - 1 - j) % 64)) := by
  by_cases h1 : c < 128
  · have hw : wid c = 1 := by simp [wid, h1]
    omega
  by_cases h2 : c < 2048
  · have hw : wid c = 2 := by simp [wid, h1, h2]
    obtain rfl : j = 1 := by omega
    rw [hw, enc2 h1 h2]; simp
  by_cases h3 : c < 65536
  · have hw : wid c = 3 := by simp [wid, h1, h2, h3]
    rw [hw] at hj
    rcases (show j = 1 ∨ j = 2 by omega) with rfl | rfl
    · rw [hw, enc3 h1 h2 h3]; simp
    · rw [hw, enc3 h1 h2 h3]; simp
  · have hw : wid c = 4 := by simp [wid, h1, h2, h3]
    rw [hw] at hj
    rcases (show j = 1 ∨ j = 2 ∨ j = 3 by omega) with rfl | rfl | rfl
    · rw [hw, enc4 h1 h2 h3]; simp
    · rw [hw, enc4 h1 h2 h3]; simp
    · rw [hw, enc4 h1 h2 h3]; simp
theorem wid_range {c : Nat} (hc : isC c) : (wid c = 1 ∧ c < 128) ∨ (wid c = 2 ∧ 128 ≤ c ∧ c < 2048) ∨ (wid c = 3 ∧ 2048 ≤ c ∧ c < 65536) ∨ (wid c = 4 ∧ 65536 ≤ c ∧ c ≤ 1114111) := by
  have := hc.le
  unfold wid
  (repeat' split) <;> omega

set_option maxHeartbeats 4000000 in
theorem appendBytes_any (B n : Nat) (u : Value) (xs : List Value) (c : Nat) (hc : isC c) (w : World) (he : Env w) (hown : w.ownsRow B 5 1 u n xs) (hB : B ≤ w.heap.size) (hB0 : 0 < B) (hlim : n ≤ 1000000000) :
    Calls Tryd.prog 79 #[u, .int .i32 (c : Nat), .int .i64 (wid c : Nat)] w fun e w' => ∃ u', e = .returned u' ∧ w'.ownsRow B 5 1 u' (n + wid c) (xs ++ Lib.byteCells (enc c)) ∧ Below B w w' := by
  obtain ⟨i0, hi, hz0, hz1, hz2⟩ := info_parts byte_info
  obtain ⟨ao, cp, rfl⟩ := own_form hown
  have c0 : w.cell? ⟨0, 0, none⟩ = some (.int .u8 0) := he.2 0 _ rfl
  have c3 : w.cell? ⟨0, 3, none⟩ = some (.int .u8 192) := he.2 3 _ rfl
  have c6 : w.cell? ⟨0, 6, none⟩ = some (.int .u8 224) := he.2 6 _ rfl
  have c9 : w.cell? ⟨0, 9, none⟩ = some (.int .u8 240) := he.2 9 _ rfl
  obtain ⟨ci, hci⟩ : ∃ ci : Int, (c : Int) = ci := ⟨_, rfl⟩
  have hr := wid_range hc
  have hf := enc_first c
  have hn := enc_next c
  obtain ⟨v0, hv0⟩ : ∃ v0, v0 = markW (wid c) + c / 64 ^ (wid c - 1) := ⟨_, rfl⟩
  rw [← hv0] at hf
  have hlen := enc_length c
  obtain ⟨E, hE⟩ : ∃ E, Hid (enc c = E) := ⟨_, rfl⟩
  rw [hE.out] at hf hlen hn ⊢
  obtain ⟨k, hwk⟩ : ∃ k, wid c = k := ⟨_, rfl⟩
  rw [hwk]
  rw [hci]
  go_enter Tryd.func79, Tryd.ntmps79
  go_upto_region 2 with fail
  go_cut [0] (fun u0 wx => wx.ownsRow B 5 1 u0 (n + 1) (xs ++ [.int .u8 (v0 : Nat)]) ∧ Below B w wx)
  case first =>
    clear hn hf
    rw [hwk] at hr
    rcases hr with ⟨hw, h1⟩ | ⟨hw, h1, h2⟩ | ⟨hw, h1, h2⟩ | ⟨hw, h1, h2⟩
    · have ex : bits .or .u8 0 ci = ci := by
        have := u8_or_nat 0 (c) (by decide) (by omega)
        rw [show ((0 : Nat) : Int) = 0 from rfl, show ((c : Nat) : Int) = ci by omega] at this
        rw [this, Nat.zero_or]
        omega
      have zc : IntKind.u8.wrap ci = ci := by rw [IntKind.wrap_u8']; omega
      have zi : IntKind.i64.wrap 0 = 0 := by decide
      have ev : (v0 : Int) = ci := by
        rw [hv0, hwk, hw, show markW 1 = 0 from rfl, show 64 ^ (1 - 1) = 1 from rfl]
        omega
      have i1 : 0 ≤ ci := by omega
      have i2 : ci ≤ 1114111 := by omega
      subst hw
      go_region_law ((refine step_append_own rfl (.tmp 11) (.tmp 22) 103 rfl B 5 i0 (.int .u8 0) 1 1 Tryd.underlying103 hi hz0 hz1 hz2 rfl (by decide) _ n _ rfl (hown.drew.alloc _) ⟨w.heap.size, 0, none⟩ 1 1 [.int .u8 ci] rfl rfl (cell_one_new _ _ _) (by simp [Value.oneCell']) (by unfold maxLen; omega) (by omega) (by simp; omega) ?_; intro v' w2 hown2 hgrow; have hb2 : Below B w w2 := ((Below.refl B w).drew.alloc (by simpa using hB) _).grown hgrow (by simp; omega) (fun k hk => (hown.lt k hk).1); clear hgrow))
      go_wp2
      go_meet
      exact ⟨by rw [ev]; exact hown2, hb2⟩
    · have ex : bits .or .u8 192 (ci / 64) = 192 + (ci / 64) := by
        have := u8_or_nat 192 (c / 64) (by decide) (by omega)
        rw [show ((192 : Nat) : Int) = 192 from rfl, show ((c / 64 : Nat) : Int) = (ci / 64) by omega] at this
        rw [this, nat_join 5 192 (c / 64) (by decide) (by omega)]
        omega
      have zc : IntKind.u8.wrap (ci / 64) = (ci / 64) := by rw [IntKind.wrap_u8']; omega
      have zi : IntKind.i64.wrap 1 = 1 := by decide
      have ev : (v0 : Int) = 192 + (ci / 64) := by
        rw [hv0, hwk, hw, show markW 2 = 192 from rfl, show 64 ^ (2 - 1) = 64 from rfl]
        omega
      have i1 : 0 ≤ ci := by omega
      have i2 : ci ≤ 1114111 := by omega
      subst hw
      go_region_law ((refine step_append_own rfl (.tmp 11) (.tmp 22) 103 rfl B 5 i0 (.int .u8 0) 1 1 Tryd.underlying103 hi hz0 hz1 hz2 rfl (by decide) _ n _ rfl (hown.drew.alloc _) ⟨w.heap.size, 0, none⟩ 1 1 [.int .u8 (192 + (ci / 64))] rfl rfl (cell_one_new _ _ _) (by simp [Value.oneCell']) (by unfold maxLen; omega) (by omega) (by simp; omega) ?_; intro v' w2 hown2 hgrow; have hb2 : Below B w w2 := ((Below.refl B w).drew.alloc (by simpa using hB) _).grown hgrow (by simp; omega) (fun k hk => (hown.lt k hk).1); clear hgrow))
      go_wp2
      go_meet
      exact ⟨by rw [ev]; exact hown2, hb2⟩
    · have ex : bits .or .u8 224 (ci / 4096) = 224 + (ci / 4096) := by
        have := u8_or_nat 224 (c / 4096) (by decide) (by omega)
        rw [show ((224 : Nat) : Int) = 224 from rfl, show ((c / 4096 : Nat) : Int) = (ci / 4096) by omega] at this
        rw [this, nat_join 4 224 (c / 4096) (by decide) (by omega)]
        omega
      have zc : IntKind.u8.wrap (ci / 4096) = (ci / 4096) := by rw [IntKind.wrap_u8']; omega
      have zi : IntKind.i64.wrap 2 = 2 := by decide
      have ev : (v0 : Int) = 224 + (ci / 4096) := by
        rw [hv0, hwk, hw, show markW 3 = 224 from rfl, show 64 ^ (3 - 1) = 4096 from rfl]
        omega
      have i1 : 0 ≤ ci := by omega
      have i2 : ci ≤ 1114111 := by omega
      subst hw
      go_region_law ((refine step_append_own rfl (.tmp 11) (.tmp 22) 103 rfl B 5 i0 (.int .u8 0) 1 1 Tryd.underlying103 hi hz0 hz1 hz2 rfl (by decide) _ n _ rfl (hown.drew.alloc _) ⟨w.heap.size, 0, none⟩ 1 1 [.int .u8 (224 + (ci / 4096))] rfl rfl (cell_one_new _ _ _) (by simp [Value.oneCell']) (by unfold maxLen; omega) (by omega) (by simp; omega) ?_; intro v' w2 hown2 hgrow; have hb2 : Below B w w2 := ((Below.refl B w).drew.alloc (by simpa using hB) _).grown hgrow (by simp; omega) (fun k hk => (hown.lt k hk).1); clear hgrow))
      go_wp2
      go_meet
      exact ⟨by rw [ev]; exact hown2, hb2⟩
    · have ex : bits .or .u8 240 (ci / 262144) = 240 + (ci / 262144) := by
        have := u8_or_nat 240 (c / 262144) (by decide) (by omega)
        rw [show ((240 : Nat) : Int) = 240 from rfl, show ((c / 262144 : Nat) : Int) = (ci / 262144) by omega] at this
        rw [this, nat_join 3 240 (c / 262144) (by decide) (by omega)]
        omega
      have zc : IntKind.u8.wrap (ci / 262144) = (ci / 262144) := by rw [IntKind.wrap_u8']; omega
      have zi : IntKind.i64.wrap 3 = 3 := by decide
      have ev : (v0 : Int) = 240 + (ci / 262144) := by
        rw [hv0, hwk, hw, show markW 4 = 240 from rfl, show 64 ^ (4 - 1) = 262144 from rfl]
        omega
      have i1 : 0 ≤ ci := by omega
      have i2 : ci ≤ 1114111 := by omega
      subst hw
      go_region_law ((refine step_append_own rfl (.tmp 11) (.tmp 22) 103 rfl B 5 i0 (.int .u8 0) 1 1 Tryd.underlying103 hi hz0 hz1 hz2 rfl (by decide) _ n _ rfl (hown.drew.alloc _) ⟨w.heap.size, 0, none⟩ 1 1 [.int .u8 (240 + (ci / 262144))] rfl rfl (cell_one_new _ _ _) (by simp [Value.oneCell']) (by unfold maxLen; omega) (by omega) (by simp; omega) ?_; intro v' w2 hown2 hgrow; have hb2 : Below B w w2 := ((Below.refl B w).drew.alloc (by simpa using hB) _).grown hgrow (by simp; omega) (fun k hk => (hown.lt k hk).1); clear hgrow))
      go_wp2
      go_meet
      exact ⟨by rw [ev]; exact hown2, hb2⟩
  case rest =>
    obtain ⟨hown2, hb2⟩ := hcut
    have hk1 : 1 ≤ k := hwk ▸ wid_pos c
    have hk4 : k ≤ 4 := hwk ▸ wid_le c
    have hv256 : v0 < 256 := by
      rw [hv0]
      rcases hr with ⟨hw, h1⟩ | ⟨hw, h1, h2⟩ | ⟨hw, h1, h2⟩ | ⟨hw, h1, h2⟩
      · rw [hw, show markW 1 = 0 from rfl, show 64 ^ (1 - 1) = 1 from rfl]; omega
      · rw [hw, show markW 2 = 192 from rfl, show 64 ^ (2 - 1) = 64 from rfl]; omega
      · rw [hw, show markW 3 = 224 from rfl, show 64 ^ (3 - 1) = 4096 from rfl]; omega
      · rw [hw, show markW 4 = 240 from rfl, show 64 ^ (4 - 1) = 262144 from rfl]; omega
    have hcle : ci ≤ 1114111 := by have := hc.le; omega
    have hc0 : 0 ≤ ci := by omega
    have hstep : ∀ p q : Nat, p + 2 ≤ k → q = c / 64 ^ p % 64 → E.take (k - p) = E.take (k - (p + 1)) ++ [UInt8.ofNat (128 + q)] := fun p q hp hq => by
      have h1 := hn (k - (p + 1)) (by omega) (by omega)
      rw [hwk, show k - 1 - (k - (p + 1)) = p by omega, ← hq] at h1
      rw [show k - p = k - (p + 1) + 1 by omega, List.take_add_one, h1]
      rfl
    rw [hwk] at hlen
    replace hstep := Lib.hid hstep
    have hf1 : E.take 1 = [UInt8.ofNat v0] := by rw [hf]; rfl
    clear hn hf hr hv0 hwk c0 c3 c6 c9
    go_wp2_with fail
    go_loopg [0, 7] (k - 1) (fun m u0 t7 wx => t7 = .int .i64 (6 * m : Nat) ∧ m + 1 ≤ k ∧ wx.ownsRow B 5 1 u0 (n + (k - m)) (xs ++ Lib.byteCells (E.take (k - m))) ∧ Below B w wx)
    case atStart =>
      refine ⟨?_, by omega, ?_, hb2⟩
      · congr 1; omega
      · rw [show k - (k - 1) = 1 by omega, hf1]
        simpa [Lib.byteCells, toNat_of hv256] using hown2
    case round =>
      obtain ⟨rfl, hm, hrow, hb1⟩ := hrel
      have hb1s := hb1.size
      obtain ⟨ao1, cp1, rfl⟩ := own_form hrow
      rcases (show gk = 0 ∨ gk = 1 ∨ gk = 2 ∨ gk = 3 by omega) with rfl | rfl | rfl | rfl
      · rw [show k - 0 = k from rfl, List.take_of_length_le (by omega)] at hrow
        go_wp2
        go_ret
        exact ⟨_, rfl, hrow, hb1⟩
      · have HS := Lib.hid (hstep.out 0 (c % 64) (by omega) (by rw [show 64 ^ 0 = 1 from rfl]; rw [Nat.div_one]))
        have ev : ((128 + c % 64 : Nat) : Int) = 128 + ci % 64 := by omega
        have et : (UInt8.ofNat (128 + c % 64)).toNat = 128 + c % 64 := toNat_of (by omega)
        obtain ⟨r, hr⟩ : ∃ r, n + (k - 1) = r := ⟨_, rfl⟩
        rw [hr] at hrow ⊢
        have hr9 : r ≤ 1000000004 := by omega
        have hrk : n + (k - 0) = r + 1 := by omega
        go_wp2_with (at_builtin; refine wpList_append_own _ rfl (.tmp 28) (.tmp 35) 103 rfl B 5 i0 (.int .u8 0) 1 1 Tryd.underlying103 hi hz0 hz1 hz2 rfl (by decide) _ r _ rfl (hrow.alloc _) ⟨wr.heap.size, 0, none⟩ 1 1 [.int .u8 (128 + ci % 64)] rfl rfl (cell_one_new _ _ _) (by simp [Value.oneCell']) (by unfold maxLen; omega) (by omega) (by simp; omega) ?_; intro v' w2 hown3 hgrow _; have hb3 : Below B w w2 := (hb1.alloc (by omega) _).grown hgrow (by simp; omega) (fun k hk => (hrow.lt k hk).1); clear hgrow)
        go_roundg 0
        case measure => omega
        case rel =>
          refine ⟨by go_num, by omega, ?_, hb3⟩
          rw [hrk, HS.out]
          have e : Lib.byteCells (E.take (k - (0 + 1)) ++ [UInt8.ofNat (128 + c % 64)]) = Lib.byteCells (E.take (k - 1)) ++ [.int .u8 (128 + ci % 64)] := by
            simp only [Lib.byteCells, List.map_append, List.map_cons, List.map_nil, et, ev]
          rw [e, ← List.append_assoc]
          exact hown3
      · have HS := Lib.hid (hstep.out 1 (c / 64 % 64) (by omega) (by rw [show 64 ^ 1 = 64 from rfl]))
        have ev : ((128 + c / 64 % 64 : Nat) : Int) = 128 + ci / 64 % 64 := by omega
        have et : (UInt8.ofNat (128 + c / 64 % 64)).toNat = 128 + c / 64 % 64 := toNat_of (by omega)
        obtain ⟨r, hr⟩ : ∃ r, n + (k - 2) = r := ⟨_, rfl⟩
        rw [hr] at hrow ⊢
        have hr9 : r ≤ 1000000004 := by omega
        have hrk : n + (k - 1) = r + 1 := by omega
        go_wp2_with (at_builtin; refine wpList_append_own _ rfl (.tmp 28) (.tmp 35) 103 rfl B 5 i0 (.int .u8 0) 1 1 Tryd.underlying103 hi hz0 hz1 hz2 rfl (by decide) _ r _ rfl (hrow.alloc _) ⟨wr.heap.size, 0, none⟩ 1 1 [.int .u8 (128 + ci / 64 % 64)] rfl rfl (cell_one_new _ _ _) (by simp [Value.oneCell']) (by unfold maxLen; omega) (by omega) (by simp; omega) ?_; intro v' w2 hown3 hgrow _; have hb3 : Below B w w2 := (hb1.alloc (by omega) _).grown hgrow (by simp; omega) (fun k hk => (hrow.lt k hk).1); clear hgrow)
        go_roundg 1
        case measure => omega
        case rel =>
          refine ⟨by go_num, by omega, ?_, hb3⟩
          rw [hrk, HS.out]
          have e : Lib.byteCells (E.take (k - (1 + 1)) ++ [UInt8.ofNat (128 + c / 64 % 64)]) = Lib.byteCells (E.take (k - 2)) ++ [.int .u8 (128 + ci / 64 % 64)] := by
            simp only [Lib.byteCells, List.map_append, List.map_cons, List.map_nil, et, ev]
          rw [e, ← List.append_assoc]
          exact hown3
      · have HS := Lib.hid (hstep.out 2 (c / 4096 % 64) (by omega) (by rw [show 64 ^ 2 = 4096 from rfl]))
        have ev : ((128 + c / 4096 % 64 : Nat) : Int) = 128 + ci / 4096 % 64 := by omega
        have et : (UInt8.ofNat (128 + c / 4096 % 64)).toNat = 128 + c / 4096 % 64 := toNat_of (by omega)
        obtain ⟨r, hr⟩ : ∃ r, n + (k - 3) = r := ⟨_, rfl⟩
        rw [hr] at hrow ⊢
        have hr9 : r ≤ 1000000004 := by omega
        have hrk : n + (k - 2) = r + 1 := by omega
        go_wp2_with (at_builtin; refine wpList_append_own _ rfl (.tmp 28) (.tmp 35) 103 rfl B 5 i0 (.int .u8 0) 1 1 Tryd.underlying103 hi hz0 hz1 hz2 rfl (by decide) _ r _ rfl (hrow.alloc _) ⟨wr.heap.size, 0, none⟩ 1 1 [.int .u8 (128 + ci / 4096 % 64)] rfl rfl (cell_one_new _ _ _) (by simp [Value.oneCell']) (by unfold maxLen; omega) (by omega) (by simp; omega) ?_; intro v' w2 hown3 hgrow _; have hb3 : Below B w w2 := (hb1.alloc (by omega) _).grown hgrow (by simp; omega) (fun k hk => (hrow.lt k hk).1); clear hgrow)
        go_roundg 2
        case measure => omega
        case rel =>
          refine ⟨by go_num, by omega, ?_, hb3⟩
          rw [hrk, HS.out]
          have e : Lib.byteCells (E.take (k - (2 + 1)) ++ [UInt8.ofNat (128 + c / 4096 % 64)]) = Lib.byteCells (E.take (k - 3)) ++ [.int .u8 (128 + ci / 4096 % 64)] := by
            simp only [Lib.byteCells, List.map_append, List.map_cons, List.map_nil, et, ev]
          rw [e, ← List.append_assoc]
          exact hown3
end Go.Proofs.YtccbofaefpbhlaaDoor.Utf
