/-
  digits.Take: its contract.
-/
import Derived.Test.YtobfhidajcnfdaaDoorTakeA
import Derived.Test.YtobfhidajcnfdaaDoorPutB
import Derived.Deep.RegionHeld3
namespace Go.Proofs.YtobfhidajcnfdaaDoor
set_option linter.unusedVariables false
set_option maxRecDepth 20000
open Go.RowKit

/-- How many bytes a text tells of. -/
def told (s : ByteArray) : Nat := beVal (s.extract 0 4).data.toList

/-- It answers a number, what is left, and an error's number. -/
def RetTk (k N : Nat) (rest : ByteArray) (er : Int) (w : World) (e : Ending) (w' : World) : Prop := ∃ v, e = .returned (.tuple #[v, .string rest, .int .i64 er]) ∧ IsN w' v k N ∧ Below w.heap.size w w'
theorem isN_zero (w : World) (k : Nat) : IsN w (.agg #[.slice none 0 0]) k 0 := ⟨none, 0, [], rfl, Arr.empty, Norm.nil _, rfl, by simp, by simp⟩

theorem take_short (s : ByteArray) (w : World) (k : Nat) (h : s.size < 4) : Calls Tryd.prog 23 #[.string s] w (RetTk k 0 ⟨#[]⟩ 2 w) := by
  have hB := Blk.new w 26 #[.slice none 0 0]
  have hc := hB.cell0
  have hf := hB.free 0
  have hq := (hB.set0 (.slice none 0 0)).cell0
  go_enter Tryd.func23, Tryd.ntmps23
  go_wp2
  exact bodyPost_ret (v := .tuple #[.agg #[.slice none 0 0], .string ⟨#[]⟩, .int .i64 2]) (by simp [results, Tryd.results23, go_sem]) rfl ⟨_, rfl, isN_zero _ _, below_new w _⟩

set_option maxHeartbeats 4000000 in
theorem take_end (s : ByteArray) (w : World) (k : Nat) (hs : s.size ≤ 1000000) (h : ¬ s.size < 4) (ht : s.size - 4 < told s) : Calls Tryd.prog 23 #[.string s] w (RetTk k 0 ⟨#[]⟩ 2 w) := by
  have hB := Blk.new w 26 #[.slice none 0 0]
  have L4 := Lib.hid (fun W => limbsOf_str (s.extract 0 4) W (by rw [ByteArray.size_extract]; omega))
  have h4 : (s.extract 0 4).size = 4 := by rw [ByteArray.size_extract]; omega
  have tok1 : True := trivial
  have hb0 := below_new w (.cells #[.slice none 0 0] 26)
  have hL1 : ((s.extract 0 4).size + 3) / 4 = 1 := by rw [h4]
  obtain ⟨n, hn⟩ : ∃ n, s.size = n + 4 := ⟨s.size - 4, by omega⟩
  obtain ⟨r, hr⟩ : ∃ r, r = s.extract 4 (n + 4) := ⟨_, rfl⟩
  have hrs : r.size = n := by rw [hr, ByteArray.size_extract]; omega
  have HTD : Hid (told s = beVal (s.extract 0 4).data.toList) := rfl
  go_enter Tryd.func23, Tryd.ntmps23
  go_wp2_with fail
  go_region_with (go_at_call 45; have _t := tok1; clear tok1; refine (L4.out _).mono ?_; rintro e x1 ⟨l, rfl, hl, hlb, hv, hBk, y1, _⟩; rw [hL1] at hl; obtain ⟨t, rfl⟩ := List.length_eq_one_iff.1 hl; have hct : x1.cell? ⟨w.heap.size + 1, 0, none⟩ = some (.int .u32 (t : Nat)) := (by have h9 := (hBk.cell 0).trans (blkOf_get .u32 [t] (by simp)); simpa using h9))
  rw [val_one, ← HTD.out] at hv
  have htl : t < 4294967296 := hlb t (by simp)
  have hb1 := below_step hb0 (below_step (below_drew _) y1)
  have hB1 : Blk x1 w.heap.size 26 #[.slice none 0 0] := (hB.on (below_drew _)).on y1
  have hc1 := hB1.cell0
  have hf1 := hB1.free 0
  clear L4 h4 hL1 hlb hBk y1 hct hB hb0 hl
  have hlt : (n : Int) < (t : Int) := by omega
  have hq := (hB1.set0 (.slice none 0 0)).cell0
  go_wp2
  exact bodyPost_ret (v := .tuple #[.agg #[.slice none 0 0], .string ⟨#[]⟩, .int .i64 2]) (by simp [results, Tryd.results23, go_sem, hq]) rfl ⟨_, rfl, isN_zero _ _, hb1.setCell (p := ⟨w.heap.size, 0, none⟩) (Nat.le_refl _) _⟩

theorem first_of (s : ByteArray) (n : Nat) (hn : s.size = n + 4) (h5 : 4 < s.size) (h0 : 0 < (s.extract 4 (n + 4)).size) : (s.extract 4 (n + 4))[0] = s[4] := by
  simp [ByteArray.getElem_extract]

set_option maxHeartbeats 4000000 in
theorem take_form (s : ByteArray) (w : World) (k : Nat) (hs : s.size ≤ 1000000) (h : ¬ s.size < 4) (ht : ¬ s.size - 4 < told s) (hp : 0 < told s) (h5 : 4 < s.size) (hz : s[4] = 0) : Calls Tryd.prog 23 #[.string s] w (RetTk k 0 ⟨#[]⟩ 3 w) := by
  have hB := Blk.new w 26 #[.slice none 0 0]
  have L4 := Lib.hid (fun W => limbsOf_str (s.extract 0 4) W (by rw [ByteArray.size_extract]; omega))
  have h4 : (s.extract 0 4).size = 4 := by rw [ByteArray.size_extract]; omega
  have tok1 : True := trivial
  have hb0 := below_new w (.cells #[.slice none 0 0] 26)
  have hL1 : ((s.extract 0 4).size + 3) / 4 = 1 := by rw [h4]
  obtain ⟨n, hn⟩ : ∃ n, s.size = n + 4 := ⟨s.size - 4, by omega⟩
  obtain ⟨r, hr⟩ : ∃ r, r = s.extract 4 (n + 4) := ⟨_, rfl⟩
  have hrs : r.size = n := by rw [hr, ByteArray.size_extract]; omega
  have HTD : Hid (told s = beVal (s.extract 0 4).data.toList) := rfl
  go_enter Tryd.func23, Tryd.ntmps23
  go_wp2_with fail
  go_region_with (go_at_call 45; have _t := tok1; clear tok1; refine (L4.out _).mono ?_; rintro e x1 ⟨l, rfl, hl, hlb, hv, hBk, y1, _⟩; rw [hL1] at hl; obtain ⟨t, rfl⟩ := List.length_eq_one_iff.1 hl; have hct : x1.cell? ⟨w.heap.size + 1, 0, none⟩ = some (.int .u32 (t : Nat)) := (by have h9 := (hBk.cell 0).trans (blkOf_get .u32 [t] (by simp)); simpa using h9))
  rw [val_one, ← HTD.out] at hv
  have htl : t < 4294967296 := hlb t (by simp)
  have hb1 := below_step hb0 (below_step (below_drew _) y1)
  have hB1 : Blk x1 w.heap.size 26 #[.slice none 0 0] := (hB.on (below_drew _)).on y1
  have hc1 := hB1.cell0
  have hf1 := hB1.free 0
  clear L4 h4 hL1 hlb hBk y1 hct hB hb0 hl
  have hlt : (t : Int) ≤ (n : Int) := by omega
  have ht0 : (0 : Int) < (t : Int) := by omega
  have h0 : 0 < (s.extract 4 (n + 4)).size := by rw [← hr, hrs]; omega
  have hx : (s.extract 4 (n + 4))[0].toNat = 0 := by rw [first_of s n hn h5 h0, hz]; rfl
  have hq := (hB1.set0 (.slice none 0 0)).cell0
  clear hv hp ht
  go_wp2
  exact bodyPost_ret (v := .tuple #[.agg #[.slice none 0 0], .string ⟨#[]⟩, .int .i64 3]) (by simp [results, Tryd.results23, go_sem, hq]) rfl ⟨_, rfl, isN_zero _ _, hb1.setCell (p := ⟨w.heap.size, 0, none⟩) (Nat.le_refl _) _⟩

set_option maxHeartbeats 4000000 in
theorem take_ok (s : ByteArray) (w : World) (t V : Nat) (rs : ByteArray) (hs : s.size ≤ 1000000) (h : ¬ s.size < 4) (htd : Hid (told s = t)) (ht : ¬ s.size - 4 < t) (hz : ∀ h5 : 4 < s.size, 0 < t → s[4] ≠ 0)
    (HV : Hid (beVal ((s.extract 4 s.size).extract 0 t).data.toList = V)) (HRS : Hid ((s.extract 4 s.size).extract t (s.size - 4) = rs)) : Calls Tryd.prog 23 #[.string s] w (RetTk ((t + 3) / 4) V rs 0 w) := by
  have hB := Blk.new w 26 #[.slice none 0 0]
  have L4 := Lib.hid (fun W => limbsOf_str (s.extract 0 4) W (by rw [ByteArray.size_extract]; omega))
  have h4 : (s.extract 0 4).size = 4 := by rw [ByteArray.size_extract]; omega
  have tok1 : True := trivial
  have hb0 := below_new w (.cells #[.slice none 0 0] 26)
  have hL1 : ((s.extract 0 4).size + 3) / 4 = 1 := by rw [h4]
  obtain ⟨n, hn⟩ : ∃ n, s.size = n + 4 := ⟨s.size - 4, by omega⟩
  obtain ⟨r, hr⟩ : ∃ r, r = s.extract 4 (n + 4) := ⟨_, rfl⟩
  have hrs : r.size = n := by rw [hr, ByteArray.size_extract]; omega
  have HTD : Hid (told s = beVal (s.extract 0 4).data.toList) := rfl
  go_enter Tryd.func23, Tryd.ntmps23
  go_wp2_with fail
  go_region_with (go_at_call 45; have _t := tok1; clear tok1; refine (L4.out _).mono ?_; rintro e x1 ⟨l, rfl, hl, hlb, hv, hBk, y1, hsx⟩; rw [hL1] at hl; obtain ⟨t', rfl⟩ := List.length_eq_one_iff.1 hl; have hct : x1.cell? ⟨w.heap.size + 1, 0, none⟩ = some (.int .u32 (t' : Nat)) := (by have h9 := (hBk.cell 0).trans (blkOf_get .u32 [t'] (by simp)); simpa using h9))
  rw [val_one, ← HTD.out, htd.out] at hv
  subst hv
  have htl : t' < 4294967296 := hlb t' (by simp)
  have hsx1 : x1.heap.size = w.heap.size + 1 + 1 := by simpa using hsx
  have hb1 := below_step hb0 (below_step (below_drew _) y1)
  have hB1 : Blk x1 w.heap.size 26 #[.slice none 0 0] := (hB.on (below_drew _)).on y1
  have hc1 := hB1.cell0
  have hf1 := hB1.free 0
  clear L4 h4 hL1 hlb hBk y1 hct hB hb0 hl
  have hlt : (t' : Int) ≤ (n : Int) := by omega
  have hhead : t' = 0 ∨ (0 < t' ∧ ∃ h0 : 0 < (s.extract 4 (n + 4)).size, ((s.extract 4 (n + 4))[0].toNat == 0) = false) := by
    rcases Nat.eq_zero_or_pos t' with h1 | h1
    · exact .inl h1
    · have h5 : 4 < s.size := by omega
      have h0 : 0 < (s.extract 4 (n + 4)).size := by rw [← hr, hrs]; omega
      refine .inr ⟨h1, h0, ?_⟩
      rw [first_of s n hn h5 h0, beq_eq_false_iff_ne]
      intro e
      exact hz h5 (by omega) (UInt8.toNat_inj.1 (by simpa using e))
  have tok2 : True := trivial
  have tok3 : True := trivial
  rw [hn, Nat.add_sub_cancel] at HRS
  rw [hn] at HV
  subst hr
  generalize s.extract 4 (n + 4) = r at *
  have hsz : (r.extract 0 t').size = t' := by rw [ByteArray.size_extract]; omega
  have LS := Lib.hid (fun W => limbsOf_str (r.extract 0 t') W (by omega))
  rw [hsz] at LS
  have hn6 : n ≤ 1000000 := by omega
  clear ht hz HTD hsz h htd
  rcases hhead with h0 | ⟨h1, h0, hx⟩
  · have h1' : (t' : Int) ≤ 0 := by omega
    clear h0
    go_wp2_with fail
    go_region_held3 (fun _ => True) (trivial)
      (first
        | (go_at_call 45; have _t2 := tok2; clear tok2; refine (LS.out _).mono ?_; rintro e x2 ⟨l2, rfl, hl2, hlb2, hv2, hBk2, y2, _⟩; have hBk3 : Blk x2 (w.heap.size + 1 + 1) 43 (blkOf .u32 l2) := (by rw [← hsx1]; exact hBk2); have hw2 : Below x1.heap.size x1 x2 := below_step (below_drew _) y2; have T := limbs_any (some ⟨w.heap.size + 1 + 1, 0, none⟩) ((t' + 3) / 4) l2 x2 (blkOf_arr hBk3).row hlb2 (by omega); rw [hl2] at T)
        | (go_at_call 11; have _t3 := tok3; clear tok3; refine T.mono ?_; rintro e x3 ⟨v3, rfl, hN3, y3⟩; obtain ⟨A3, n3, c3, rfl⟩ := hN3.shape; have hB3 := (hB1.on hw2).on y3; have hc3 := hB3.cell0; have hf3 := hB3.free 0; have hq3 := (hB3.set0 (.slice A3 n3 c3)).cell0))
    go_wp2
    have hV2 : val 4294967296 l2 = V := hv2.trans HV.out
    rw [hV2] at hN3
    rw [← HRS.out]
    exact bodyPost_ret (v := .tuple #[.agg #[.slice A3 n3 c3], .string (r.extract t' n), .int .i64 0]) (by simp [results, Tryd.results23, go_sem, hq3]) rfl ⟨_, rfl, hN3.far hB3 0 _, (below_step hb1 (below_step hw2 y3)).setCell (p := ⟨w.heap.size, 0, none⟩) (Nat.le_refl _) _⟩
  · have h1' : (0 : Int) < (t' : Int) := by omega
    have hxi : ((r[0].toNat : Int) == 0) = false := by
      rw [beq_eq_false_iff_ne] at hx ⊢
      omega
    go_wp2_with fail
    go_region_held3 (fun _ => True) (trivial)
      (first
        | (go_at_call 45; have _t2 := tok2; clear tok2; refine (LS.out _).mono ?_; rintro e x2 ⟨l2, rfl, hl2, hlb2, hv2, hBk2, y2, _⟩; have hBk3 : Blk x2 (w.heap.size + 1 + 1) 43 (blkOf .u32 l2) := (by rw [← hsx1]; exact hBk2); have hw2 : Below x1.heap.size x1 x2 := below_step (below_drew _) y2; have T := limbs_any (some ⟨w.heap.size + 1 + 1, 0, none⟩) ((t' + 3) / 4) l2 x2 (blkOf_arr hBk3).row hlb2 (by omega); rw [hl2] at T)
        | (go_at_call 11; have _t3 := tok3; clear tok3; refine T.mono ?_; rintro e x3 ⟨v3, rfl, hN3, y3⟩; obtain ⟨A3, n3, c3, rfl⟩ := hN3.shape; have hB3 := (hB1.on hw2).on y3; have hc3 := hB3.cell0; have hf3 := hB3.free 0; have hq3 := (hB3.set0 (.slice A3 n3 c3)).cell0))
    go_wp2
    have hV2 : val 4294967296 l2 = V := hv2.trans HV.out
    rw [hV2] at hN3
    rw [← HRS.out]
    exact bodyPost_ret (v := .tuple #[.agg #[.slice A3 n3 c3], .string (r.extract t' n), .int .i64 0]) (by simp [results, Tryd.results23, go_sem, hq3]) rfl ⟨_, rfl, hN3.far hB3 0 _, (below_step hb1 (below_step hw2 y3)).setCell (p := ⟨w.heap.size, 0, none⟩) (Nat.le_refl _) _⟩
end Go.Proofs.YtobfhidajcnfdaaDoor
