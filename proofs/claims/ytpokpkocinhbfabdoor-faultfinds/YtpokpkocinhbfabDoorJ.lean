/-
  Contracts of the laws' own helpers: Few, Chain, same.
-/
import Derived.Test.YtpokpkocinhbfabDoorI
import Derived.Deep.RegionHeld3
import Derived.BigQuiet
import Derived.Deep.QuietTactic
namespace Go.Proofs.YtpokpkocinhbfabDoor
set_option linter.unusedVariables false
set_option maxRecDepth 20000
open Go.RowKit Go.Extern.Stop Go.Stop Go.Extern

theorem below_drewN' {B : Nat} {a w : World} (h : Below B a w) (n : Nat) : Below B a (w.drewN n) := ⟨h.os, h.tape, h.output, h.size, h.block⟩
theorem link_info : (Tryd.prog.info? 40).map (fun i => (i.zero, i.size, i.bytes)) = some (some (.agg #[.int .i64 0, .int .i64 0, .string ⟨#[]⟩]), 3, 32) := by kernel_rfl

def Lk.cells (x : Lk) : List Value := [.int .i64 x.code, .int .i64 x.line, .string x.note]
def linkCells : List Lk → List Value
  | [] => []
  | x :: r => x.cells ++ linkCells r
theorem linkCells_append (l r : List Lk) : linkCells (l ++ r) = linkCells l ++ linkCells r := by
  induction l with
  | nil => rfl
  | cons x l ih => simp [linkCells, ih]
theorem linkCells_length (l : List Lk) : (linkCells l).length = l.length * 3 := by
  induction l with
  | nil => rfl
  | cons x l ih => simp [linkCells, Lk.cells, ih]; omega
theorem linkCells_at {l : List Lk} {i : Nat} {x : Lk} (h : l[i]? = some x) : (linkCells l)[i * 3]? = some (.int .i64 x.code) ∧ (linkCells l)[i * 3 + 1]? = some (.int .i64 x.line) ∧ (linkCells l)[i * 3 + 2]? = some (.string x.note) := by
  induction l generalizing i with
  | nil => simp at h
  | cons y r ih =>
    cases i with
    | zero => simp at h; subst h; simp [linkCells, Lk.cells]
    | succ i =>
      simp at h
      have := ih h
      simp only [linkCells, Lk.cells, List.cons_append, List.nil_append, show (i + 1) * 3 = i * 3 + 3 by omega]
      simpa [Nat.add_assoc] using this
theorem links_one (x : Lk) : ∀ u ∈ x.cells, u.oneCell' = true := by
  intro u hu
  simp [Lk.cells] at hu
  rcases hu with rfl | rfl | rfl <;> rfl
/-- A row of links of the call's own reads as them. -/
theorem own_links {w : World} {B : Nat} {u : Value} {l : List Lk} (h : w.ownsRow B 40 3 u l.length (linkCells l)) : ∃ A c, u = .slice A l.length c ∧ Links w A l := by
  rcases h.2 with ⟨rfl, h0⟩ | ⟨g, cap, cur, rfl, hB, hg, _⟩
  · have : l = [] := List.eq_nil_of_length_eq_zero h0
    subst this
    exact ⟨none, 0, rfl, fun hn => absurd rfl hn⟩
  · have hc := h.cells (g := g) rfl
    have hlt : g < w.heap.size := by
      rcases Nat.lt_or_ge g w.heap.size with h' | h'
      · exact h'
      · simp [Array.getElem?_eq_none h'] at hg
    refine ⟨some ⟨g, 0, none⟩, cap, rfl, fun _ => ⟨_, rfl, hlt, fun i x hx => ?_⟩⟩
    obtain ⟨h0, h1, h2⟩ := linkCells_at hx
    exact ⟨hc _ _ h0, hc _ _ h1, hc _ _ h2⟩

def cut20 (s : ByteArray) : ByteArray := if 20 < s.size then s.extract 0 20 else s
def fewCode (c : Int) : Int := wrap64 (1 + (wrap64 (c.tmod 16 + 16)).tmod 16)
def few1 (x : Lk) : Lk := { code := fewCode x.code, line := x.line, note := cut20 x.note }

theorem cell_three_new (w : World) (t : TypeId) (x y z : Value) : ∀ (j : Nat) (u : Value), [x, y, z][j]? = some u → (w.alloc (.cells #[x, y, z] t)).cell? ((⟨w.heap.size, 0, none⟩ : Addr).add j) = some u := by
  intro j u hu
  rw [add_off, Nat.zero_add, (Blk.new w t #[x, y, z]).cell]
  match j, hu with
  | 0, hu => simpa using hu
  | 1, hu => simpa using hu
  | 2, hu => simpa using hu
  | j + 3, hu => simp at hu
theorem own_form3 {w : World} {B n size : Nat} {e : TypeId} {u : Value} {xs : List Value} (h : w.ownsRow B e size u n xs) : ∃ ao cap, u = .slice ao n cap := by
  rcases h.2 with ⟨hv, h0⟩ | ⟨g, cap, cur, hv, _⟩
  · exact ⟨none, 0, by rw [hv, h0]⟩
  · exact ⟨_, _, hv⟩

set_option maxHeartbeats 4000000 in
theorem few_any (A : Option Addr) (c : Nat) (l : List Lk) (w : World) (h : Links w A l) :
    Calls Tryd.prog 9 #[.slice A l.length c] w fun e w' => ∃ u, e = .returned u ∧ w'.ownsRow w.heap.size 40 3 u ((l.take 12).map few1).length (linkCells ((l.take 12).map few1)) ∧ Below w.heap.size w w' := by
  obtain ⟨i0, hi0, hz0, hz1', hz2⟩ := info_parts link_info
  go_enter Tryd.func9, Tryd.ntmps9
  go_wp2
  go_loopg [3, 4] 12 (fun n o i wx => ∃ k : Nat, k + n = 12 ∧ k ≤ l.length ∧ i = .int .i64 k ∧ wx.ownsRow w.heap.size 40 3 o ((l.take k).map few1).length (linkCells ((l.take k).map few1)) ∧ Below w.heap.size w wx)
  case atStart => exact ⟨0, by omega, by omega, rfl, ⟨by simp [linkCells], .inl ⟨rfl, by simp⟩⟩, Below.refl _ _⟩
  case round =>
    obtain ⟨k, hk, hkl, rfl, hrow, hb1⟩ := hrel
    have hb1s := hb1.size
    by_cases hlt : k < l.length
    · by_cases h12 : k < 12
      · obtain ⟨x, hx⟩ : ∃ x, l[k]? = some x := ⟨_, List.getElem?_eq_getElem hlt⟩
        obtain ⟨ad, rfl, c0, c1, c2⟩ := (h.kept hb1).three hx
        have hlen : ((l.take k).map few1).length = k := by simp; omega
        have HT : Hid ((l.take (k + 1)).map few1 = (l.take k).map few1 ++ [few1 x]) := by
          rw [Hid, List.take_succ_eq_append_getElem hlt, List.map_append]
          rw [List.getElem?_eq_getElem hlt] at hx
          rw [Option.some.inj hx]; rfl
        rw [hlen] at hrow
        have HK := Lib.hid hk
        clear hx hk
        generalize (l.take k).map few1 = fs at *
        have HL := Lib.hid hlen
        clear hlen
        by_cases h20 : 20 < x.note.size
        · have HN := Lib.hid h20
          go_wp2_with (at_builtin; refine wpList_append_own _ rfl (.tmp 35) (.tmp 37) 22 rfl w.heap.size 40 i0 (.agg #[.int .i64 0, .int .i64 0, .string ⟨#[]⟩]) 3 32 Tryd.underlying22 hi0 hz0 hz1' hz2 rfl (by decide) u3 k (linkCells fs) rfl ((hrow.alloc _).alloc _) ⟨wr.heap.size + 1, 0, none⟩ 1 1 [.int .i64 (wrap64 (1 + (wrap64 (x.code.tmod 16 + 16)).tmod 16)), .int .i64 x.line, .string (x.note.extract 0 20)] rfl rfl (by have := cell_three_new (wr.alloc (.cells #[.int .i64 (wrap64 (1 + (wrap64 (x.code.tmod 16 + 16)).tmod 16)), .int .i64 x.line, .string (x.note.extract 0 20)] 40)) 40 (.int .i64 (wrap64 (1 + (wrap64 (x.code.tmod 16 + 16)).tmod 16))) (.int .i64 x.line) (.string (x.note.extract 0 20)); simpa using this) (links_one ⟨wrap64 (1 + (wrap64 (x.code.tmod 16 + 16)).tmod 16), x.line, (x.note.extract 0 20)⟩) (by unfold maxLen; omega) (by omega) (by simp; omega) ?_; intro v' w2 hown2 hgrow _; have hb2 : Below w.heap.size w w2 := (bel_new (bel_new hb1 _) _).grown hgrow (by simp; omega) (fun k hk => (hrow.lt k hk).1); clear hgrow)
          go_roundg (12 - (k + 1))
          case measure => have := HK.out; omega
          case rel => exact ⟨k + 1, by omega, by omega, by go_num, by rw [HT.out, linkCells_append, List.length_append, HL.out]; have e : few1 x = ⟨wrap64 (1 + (wrap64 (x.code.tmod 16 + 16)).tmod 16), x.line, (x.note.extract 0 20)⟩ := (by simp [few1, fewCode, cut20, HN.out]); rw [e]; simpa [linkCells, Lk.cells] using hown2, hb2⟩
        · have HN := Lib.hid h20
          have h20' : (x.note.size : Int) ≤ 20 := by omega
          clear h20
          go_wp2_with (at_builtin; refine wpList_append_own _ rfl (.tmp 35) (.tmp 37) 22 rfl w.heap.size 40 i0 (.agg #[.int .i64 0, .int .i64 0, .string ⟨#[]⟩]) 3 32 Tryd.underlying22 hi0 hz0 hz1' hz2 rfl (by decide) u3 k (linkCells fs) rfl ((hrow.alloc _).alloc _) ⟨wr.heap.size + 1, 0, none⟩ 1 1 [.int .i64 (wrap64 (1 + (wrap64 (x.code.tmod 16 + 16)).tmod 16)), .int .i64 x.line, .string x.note] rfl rfl (by have := cell_three_new (wr.alloc (.cells #[.int .i64 (wrap64 (1 + (wrap64 (x.code.tmod 16 + 16)).tmod 16)), .int .i64 x.line, .string x.note] 40)) 40 (.int .i64 (wrap64 (1 + (wrap64 (x.code.tmod 16 + 16)).tmod 16))) (.int .i64 x.line) (.string x.note); simpa using this) (links_one ⟨wrap64 (1 + (wrap64 (x.code.tmod 16 + 16)).tmod 16), x.line, x.note⟩) (by unfold maxLen; omega) (by omega) (by simp; omega) ?_; intro v' w2 hown2 hgrow _; have hb2 : Below w.heap.size w w2 := (bel_new (bel_new hb1 _) _).grown hgrow (by simp; omega) (fun k hk => (hrow.lt k hk).1); clear hgrow)
          go_roundg (12 - (k + 1))
          case measure => have := HK.out; omega
          case rel => exact ⟨k + 1, by omega, by omega, by go_num, by rw [HT.out, linkCells_append, List.length_append, HL.out]; have e : few1 x = ⟨wrap64 (1 + (wrap64 (x.code.tmod 16 + 16)).tmod 16), x.line, x.note⟩ := (by simp [few1, fewCode, cut20, HN.out]); rw [e]; simpa [linkCells, Lk.cells] using hown2, hb2⟩
      · obtain rfl : k = 12 := by omega
        have hl12 : ((l.take 12).map few1).length = 12 := by simp; omega
        rw [hl12] at hrow
        have HL := Lib.hid hl12
        clear hl12
        obtain ⟨ao, cap, rfl⟩ := own_form3 hrow
        go_wp2
        go_ret
        exact ⟨_, rfl, by rw [HL.out]; exact hrow, hb1⟩
    · obtain rfl : k = l.length := by omega
      have hm : l.take l.length = l.take 12 := by rw [List.take_length, List.take_of_length_le (by omega)]
      rw [hm] at hrow
      clear hm
      obtain ⟨ao, cap, rfl⟩ := own_form3 hrow
      go_wp2
      go_ret
      exact ⟨_, rfl, hrow, hb1⟩

set_option maxHeartbeats 4000000 in
theorem chain_any (A : Option Addr) (c : Nat) (l : List Lk) (w : World) (h : Links w A l) (hl : l.length ≤ 1000) :
    Calls Tryd.prog 10 #[.slice A l.length c] w (RetC l w) := by
  go_enter Tryd.func10, Tryd.ntmps10
  go_wp2
  go_loopg [3, 4] l.length (fun n v i wx => i = .int .i64 ((n : Int) - 1) ∧ n ≤ l.length ∧ Chn wx v (l.drop n) ∧ Below w.heap.size w wx)
  case atStart => exact ⟨by go_num, by omega, by simp [Chn], Below.refl _ _⟩
  case round =>
    obtain ⟨rfl, hn, hC, hb⟩ := hrel
    cases gk with
    | zero =>
      rw [List.drop_zero] at hC
      rw [show (((0 : Nat) : Int) - 1) = -1 by omega]
      have hsh : u3 = .nilIface ∨ ∃ q, u3 = .iface 36 q := by
        cases l with
        | nil => exact .inl hC
        | cons x r => obtain ⟨g, d, e, _⟩ := hC; exact .inr ⟨_, e⟩
      go_wp2
      go_ret
      exact ⟨_, rfl, hC, hb⟩
    | succ k =>
      have hlt : k < l.length := by omega
      obtain ⟨x, hx⟩ : ∃ x, l[k]? = some x := ⟨_, List.getElem?_eq_getElem hlt⟩
      obtain ⟨ad, rfl, c0, c1, c2⟩ := (h.kept hb).three hx
      have HD : Hid (l.drop k = x :: l.drop (k + 1)) := by
        rw [Hid, List.drop_eq_getElem_cons hlt]
        rw [List.getElem?_eq_getElem hlt] at hx
        rw [Option.some.inj hx]
      rw [show (((k + 1 : Nat) : Int) - 1) = (k : Int) by omega]
      have hi0 : (0 : Int) ≤ (k : Int) := by omega
      have hi1 : (k : Int) < (l.length : Int) := by omega
      have hS : wr.cell? (ad.add (k * 3)) = some (.int .i64 x.code) ∧ wr.cell? ⟨(ad.add (k * 3)).block, (ad.add (k * 3)).off + 1, none⟩ = some (.int .i64 x.line) ∧ wr.cell? ⟨(ad.add (k * 3)).block, (ad.add (k * 3)).off + 2, none⟩ = some (.string x.note) := ⟨c0, c1, c2⟩
      have hadl : ad.block < wr.heap.size := by
        rcases Nat.lt_or_ge (ad.add (k * 3)).block wr.heap.size with h1 | h1
        · rw [add_block] at h1; exact h1
        · simp [World.cell?, Array.getElem?_eq_none h1] at c0
      have hS2 : ∀ o, (wr.alloc o).cell? (ad.add (k * 3)) = some (.int .i64 x.code) ∧ (wr.alloc o).cell? ⟨(ad.add (k * 3)).block, (ad.add (k * 3)).off + 1, none⟩ = some (.int .i64 x.line) ∧ (wr.alloc o).cell? ⟨(ad.add (k * 3)).block, (ad.add (k * 3)).off + 2, none⟩ = some (.string x.note) := fun o => by
        rw [World.cell?_alloc_lt _ _ _ (by rw [add_block]; exact hadl), World.cell?_alloc_lt _ _ ⟨_, _, none⟩ (by show (ad.add (k * 3)).block < _; rw [add_block]; exact hadl), World.cell?_alloc_lt _ _ ⟨_, _, none⟩ (by show (ad.add (k * 3)).block < _; rw [add_block]; exact hadl)]
        exact hS
      have HS := Lib.hid hS
      have HS2 := Lib.hid hS2
      clear hx hS hS2 c0 c1 c2 hadl
      generalize hR : l.drop (k + 1) = r at *
      have HR := Lib.hid hR
      clear hR
      go_wp2_with fail
      go_region_held3 (fun w' => w'.cell? (ad.add (k * 3)) = some (.int .i64 x.code) ∧ w'.cell? ⟨(ad.add (k * 3)).block, (ad.add (k * 3)).off + 1, none⟩ = some (.int .i64 x.line) ∧ w'.cell? ⟨(ad.add (k * 3)).block, (ad.add (k * 3)).off + 2, none⟩ = some (.string x.note)) (first | exact HS.out | exact HS2.out _) (fail)
      cases r with
      | nil =>
        obtain rfl := (hC : _ = Value.nilIface)
        go_wp2
        go_roundg k
        case measure => omega
        case rel => exact ⟨rfl, by omega, by rw [HD.out]; exact ⟨_, _, rfl, Blk.new wr 38 _, rfl⟩, (bel_new hb _).drew⟩
      | cons y r' =>
        obtain ⟨g, d, rfl, hk2, hr2⟩ := hC
        go_wp2
        go_roundg k
        case measure => omega
        case rel => exact ⟨rfl, by omega, by rw [HD.out]; exact ⟨_, _, rfl, Blk.new wr 38 _, ⟨g, d, rfl, hk2.alloc _, hr2.kept (below_new wr _).drew⟩⟩, (bel_new hb _).drew⟩

set_option maxHeartbeats 2000000 in
theorem same_any (B B' : Nat) (u v : Value) (ss : List ByteArray) (w : World) (hu : w.ownsRow B 9 1 u ss.length (strs ss)) (hv : w.ownsRow B' 9 1 v ss.length (strs ss)) (hl : ss.length ≤ 1000) :
    Calls Tryd.prog 15 #[u, v] w (RetV (.bool true) w) := by
  obtain ⟨ao, cap, rfl⟩ := own_form hu
  obtain ⟨bo, cap', rfl⟩ := own_form hv
  go_enter Tryd.func15, Tryd.ntmps15
  go_wp2
  go_loopg [13] ss.length (fun n i wx => ∃ k : Nat, k + n = ss.length ∧ i = .int .i64 k ∧ ∃ q, wx = w.drewN q)
  case atStart => exact ⟨0, by omega, rfl, 0, rfl⟩
  case round =>
    obtain ⟨k, hk, rfl, q, rfl⟩ := hrel
    by_cases hlt : k < ss.length
    · obtain ⟨z, hzz⟩ : ∃ z, ss[k]? = some z := ⟨_, List.getElem?_eq_getElem hlt⟩
      obtain ⟨g, cp, he, hc⟩ := own_at hu (strs_at hzz)
      obtain ⟨g', cp', he', hc'⟩ := own_at hv (strs_at hzz)
      simp only [Value.slice.injEq] at he he'
      obtain ⟨rfl, _, rfl⟩ := he
      obtain ⟨rfl, _, rfl⟩ := he'
      have HK := Lib.hid hk
      clear hk hzz
      go_wp2_with fail
      go_quiet (fail)
      go_wp2
      go_roundg (ss.length - (k + 1))
      case measure => have := HK.out; omega
      case rel => exact ⟨k + 1, by omega, by go_num, _, rfl⟩
    · go_wp2
      go_ret
      exact ⟨rfl, below_drewN' (Below.refl _ _) _⟩
end Go.Proofs.YtpokpkocinhbfabDoor
