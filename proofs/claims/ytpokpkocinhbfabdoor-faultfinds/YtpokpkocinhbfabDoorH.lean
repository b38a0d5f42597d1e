/-
  Contracts of the document's answers: Code, Line, Notes, word, digits.
-/
import Derived.Test.YtpokpkocinhbfabDoorE
import Derived.Laws.IdiomStrings
namespace Go.Proofs.YtpokpkocinhbfabDoor
set_option linter.unusedVariables false
set_option maxRecDepth 20000
open Go.RowKit Go.Extern.Stop Go.Stop Go.Extern

theorem add_rec (a : Addr) (m n : Nat) (hn : 0 < n) : (⟨(a.add m).block, (a.add m).off + n, none⟩ : Addr) = a.add (m + n) := by
  unfold Addr.add
  by_cases hm : m = 0
  · subst hm; simp [show n ≠ 0 by omega]
  · simp [hm, show ¬ (m = 0 ∧ n = 0) by omega, Nat.add_assoc]
/-- A link of a slice, as a walk reads it. -/
theorem Links.three {w : World} {A : Option Addr} {l : List Lk} (h : Links w A l) {i : Nat} {x : Lk} (hx : l[i]? = some x) : ∃ ad : Addr, A = some ad ∧
    w.cell? (ad.add (i * 3)) = some (.int .i64 x.code) ∧ w.cell? ⟨(ad.add (i * 3)).block, (ad.add (i * 3)).off + 1, none⟩ = some (.int .i64 x.line) ∧ w.cell? ⟨(ad.add (i * 3)).block, (ad.add (i * 3)).off + 2, none⟩ = some (.string x.note) := by
  obtain ⟨ad, e, _, c0, c1, c2⟩ := h.at_ hx
  exact ⟨ad, e, c0, by rw [add_rec _ _ _ (by decide)]; exact c1, by rw [add_rec _ _ _ (by decide)]; exact c2⟩

theorem refCode_any (A : Option Addr) (c : Nat) (l : List Lk) (w : World) (h : Links w A l) (hl : l.length ≤ 1000) :
    Calls Tryd.prog 12 #[.slice A l.length c] w (RetV (.int .i64 (codeOf l)) w) := by
  cases l with
  | nil =>
    go_enter Tryd.func12, Tryd.ntmps12
    go_wp2
    go_ret
    exact ⟨rfl, Below.refl _ _⟩
  | cons x r =>
    obtain ⟨ad, rfl, _, hc, _⟩ := h.at_ (i := 0) (x := x) rfl
    have hc0 : w.cell? ad = some (.int .i64 x.code) := hc
    clear hc
    have hn : (x :: r).length = r.length + 1 := rfl
    rw [hn] at hl ⊢
    have hz : ((r.length : Int) + 1 == 0) = false := by simp; omega
    clear hn
    go_enter Tryd.func12, Tryd.ntmps12
    go_wp2
    go_ret
    exact ⟨rfl, Below.refl _ _⟩

set_option maxHeartbeats 2000000 in
theorem refLine_any (A : Option Addr) (c : Nat) (l : List Lk) (w : World) (h : Links w A l) (hl : l.length ≤ 1000) :
    Calls Tryd.prog 14 #[.slice A l.length c] w (RetV (.int .i64 (lineOf l)) w) := by
  go_enter Tryd.func14, Tryd.ntmps14
  go_wp2
  go_loopg [7] l.length (fun n i wx => ∃ k : Nat, k + n = l.length ∧ i = .int .i64 k ∧ Aside (lineOf l = lineOf (l.drop k)) ∧ Below w.heap.size w wx)
  case atStart => exact ⟨0, by omega, rfl, by simp [Aside], Below.refl _ _⟩
  case round =>
    obtain ⟨k, hk, rfl, hv, hb⟩ := hrel
    by_cases hlt : k < l.length
    · obtain ⟨x, hx⟩ : ∃ x, l[k]? = some x := ⟨_, List.getElem?_eq_getElem hlt⟩
      obtain ⟨ad, rfl, c0, c1, c2⟩ := (h.kept hb).three hx
      have hd := lineOf_drop hx
      have HV : Hid (lineOf l = if x.line = 0 then lineOf (l.drop (k + 1)) else x.line) := by rw [← hd]; exact hv.out
      have HK := Lib.hid hk
      clear hd hv hx hk
      by_cases hz : x.line = 0
      · have hz1 : (x.line != 0) = false := by simp [hz]
        have HZ := Lib.hid hz
        clear hz
        go_wp2
        go_roundg (l.length - (k + 1))
        case measure => have := HK.out; omega
        case rel => exact ⟨k + 1, by omega, by go_num, by rw [Aside, HV.out, if_pos HZ.out], bel_new hb _⟩
      · have hz1 : (x.line != 0) = true := by simp [hz]
        have HZ := Lib.hid hz
        clear hz
        go_wp2
        go_ret
        exact ⟨by rw [HV.out, if_neg HZ.out]; rfl, bel_new hb _⟩
    · have hk0 : k = l.length := by omega
      have HV : Hid (lineOf l = 0) := by rw [hv.out, hk0]; simp [Hid, lineOf]
      clear hv
      go_wp2
      go_ret
      exact ⟨by rw [HV.out]; rfl, hb⟩

set_option maxHeartbeats 4000000 in
theorem refNotes_any (A : Option Addr) (c : Nat) (l : List Lk) (w : World) (h : Links w A l) (hl : l.length ≤ 1000) :
    Calls Tryd.prog 17 #[.slice A l.length c] w (RetS (notesOf l) w) := by
  obtain ⟨i0, hi0, hz0, hz1', hz2⟩ := info_parts str_info
  go_enter Tryd.func17, Tryd.ntmps17
  go_wp2
  go_loopg [3, 9] l.length (fun n ns i wx => ∃ k : Nat, k + n = l.length ∧ i = .int .i64 k ∧ wx.ownsRow w.heap.size 9 1 ns (notesOf (l.take k)).length (strs (notesOf (l.take k))) ∧ Below w.heap.size w wx)
  case atStart => exact ⟨0, by omega, rfl, World.ownsRow_lit w #[] 0 (Nat.le_refl _) (by decide) rfl, below_new _ _⟩
  case round =>
    obtain ⟨k, hk, rfl, hrow, hb1⟩ := hrel
    have hb1s := hb1.size
    by_cases hlt : k < l.length
    · obtain ⟨x, hx⟩ : ∃ x, l[k]? = some x := ⟨_, List.getElem?_eq_getElem hlt⟩
      obtain ⟨ad, rfl, c0, c1, c2⟩ := (h.kept hb1).three hx
      have HT := Lib.hid (notesOf_take hx)
      have HK := Lib.hid hk
      have hle := notesOf_le (l.take k)
      have hle2 : (l.take k).length ≤ 1000 := by rw [List.length_take]; omega
      clear hx hk
      generalize notesOf (l.take k) = ss at *
      by_cases hz : x.note.size = 0
      · have hs := size_zero hz
        rw [hs] at c2
        have HZ := Lib.hid hz
        clear hz hs
        go_wp2
        go_roundg (l.length - (k + 1))
        case measure => have := HK.out; omega
        case rel => exact ⟨k + 1, by omega, by go_num, by rw [HT.out, if_pos HZ.out]; exact hrow.alloc _, bel_new hb1 _⟩
      · have HZ := Lib.hid hz
        have hz1 := full_list hz
        have hb16 : (ss.length + 1) * 16 ≤ 140737488355328 := by omega
        clear hz hle2 hle
        go_wp2_with (at_builtin; refine wpList_append_own _ rfl (.tmp 16) (.tmp 19) 33 rfl w.heap.size 9 i0 (.string ⟨#[]⟩) 1 16 Tryd.underlying33 hi0 hz0 hz1' hz2 rfl (by decide) u3 ss.length (strs ss) rfl ((hrow.alloc _).alloc _) ⟨wr.heap.size + 1, 0, none⟩ 1 1 [.string x.note] rfl rfl (by have := cell_one_new (wr.alloc (.cells #[.int .i64 x.code, .int .i64 x.line, .string x.note] 40)) (.string x.note) 9; simpa using this) (by simp [Value.oneCell']) (by unfold maxLen; omega) hb16 (by simp; omega) ?_; intro v' w2 hown2 hgrow _; have hb2 : Below w.heap.size w w2 := (bel_new (bel_new hb1 _) _).grown hgrow (by simp; omega) (fun k hk => (hrow.lt k hk).1); clear hgrow)
        go_roundg (l.length - (k + 1))
        case measure => have := HK.out; omega
        case rel => exact ⟨k + 1, by omega, by go_num, by rw [HT.out, if_neg HZ.out, ← strs_snoc]; simpa using hown2, hb2⟩
    · have hk0 : k = l.length := by omega
      subst hk0
      rw [List.take_length] at hrow
      obtain ⟨ao2, cap2, rfl⟩ := own_form hrow
      go_wp2
      go_ret
      exact ⟨_, rfl, hrow, hb1⟩

theorem dec_step {u : Nat} (h : 10 ≤ u) : Lib.decDigits u = Lib.decDigits (u / 10) ++ [UInt8.ofNat (48 + u % 10)] := by
  rw [Lib.decDigits, dif_neg (by omega)]

theorem pow_step {v k : Nat} (hk : k < 64) (h : v < 2 ^ (64 - k)) : v / 10 < 2 ^ (64 - (k + 1)) := by
  have e : 2 ^ (64 - k) = 2 * 2 ^ (64 - (k + 1)) := by rw [show 64 - k = (64 - (k + 1)) + 1 by omega, Nat.pow_succ, Nat.mul_comm]
  rw [e] at h
  generalize 2 ^ (64 - (k + 1)) = P at *
  omega
theorem pow_pos_k {v k : Nat} (hk : k ≤ 64) (h : v < 2 ^ (64 - k)) (hv : 0 < v) : k < 64 := by
  rcases Nat.lt_or_ge k 64 with h1 | h1
  · exact h1
  · have : k = 64 := by omega
    subst this
    simp at h
    omega
/-- What has been written when the word is under way. -/
def WordAt (u v k : Nat) (t : List UInt8) : Prop := (k = 0 ∧ v = u ∧ t = []) ∨ (0 < k ∧ (0 < v → Lib.decDigits u = Lib.decDigits v ++ t) ∧ (v = 0 → Lib.decDigits u = t))
theorem WordAt.step {u v k : Nat} {t : List UInt8} (h : WordAt u v k t) (hv : k = 0 ∨ 0 < v) : WordAt u (v / 10) (k + 1) (UInt8.ofNat (48 + v % 10) :: t) := by
  have key : ∀ r : List UInt8, (0 < v / 10 → Lib.decDigits v ++ r = Lib.decDigits (v / 10) ++ (UInt8.ofNat (48 + v % 10) :: r)) ∧ (v / 10 = 0 → Lib.decDigits v ++ r = UInt8.ofNat (48 + v % 10) :: r) := fun r => by
    refine ⟨fun hp => ?_, fun hz => ?_⟩
    · rw [dec_step (u := v) (by omega)]; simp
    · have h10 : v < 10 := by omega
      rw [Lib.decDigits_one h10, Nat.mod_eq_of_lt h10]; rfl
  refine .inr ⟨by omega, ?_, ?_⟩
  · intro hp
    rcases h with ⟨_, rfl, rfl⟩ | ⟨_, h1, _⟩
    · have := (key []).1 hp; simpa using this
    · rw [h1 (by omega)]; exact (key t).1 hp
  · intro hz
    rcases h with ⟨_, rfl, rfl⟩ | ⟨hk, h1, h2⟩
    · have := (key []).2 hz; simpa using this
    · have hv0 : 0 < v := by omega
      rw [h1 hv0]; exact (key t).2 hz

/-- One byte as a text. -/
theorem one_string (v : Nat) (w : World) : (convert 66 9 (.slice (some ⟨w.heap.size, 0, none⟩) 1 1)).run Tryd.prog (w.alloc (.cells #[.int .u8 (48 + (v : Int) % 10)] 5)) = .ok (.string ⟨[UInt8.ofNat (48 + v % 10)].toArray⟩) (w.alloc (.cells #[.int .u8 (48 + (v : Int) % 10)] 5)) := by
  refine run_convert_bytes_back _ 66 9 5 ⟨w.heap.size, 0, none⟩ 1 [UInt8.ofNat (48 + v % 10)] Tryd.underlying66 Tryd.underlying5 Tryd.underlying9 ?_
  intro j hj
  obtain rfl : j = 0 := by simp at hj; omega
  rw [add_off, (Blk.new w 5 _).cell]
  have e : (UInt8.ofNat (48 + v % 10)).toNat = 48 + v % 10 := by rw [UInt8.toNat_ofNat']; omega
  simp only [List.getElem_cons_zero]
  rw [e]
  simp

set_option maxHeartbeats 2000000 in
theorem word_any (u : Nat) (w : World) (hu : u < 18446744073709551616) : Calls Tryd.prog 45 #[.int .u64 u] w (RetV (.string ⟨(Lib.decDigits u).toArray⟩) w) := by
  go_enter Tryd.func45, Tryd.ntmps45
  go_wp2
  go_loopg [0, 3, 4] (u + 1) (fun n x s i wx => ∃ (v k : Nat) (t : List UInt8), Aside ((k = 0 → v < n) ∧ v ≤ n ∧ v < 2 ^ (64 - k) ∧ WordAt u v k t) ∧ v < 18446744073709551616 ∧ x = .int .u64 v ∧ s = .string ⟨t.toArray⟩ ∧ i = .int .i64 k ∧ t.length ≤ k ∧ k ≤ 64 ∧ Below w.heap.size w wx)
  case atStart => exact ⟨u, 0, [], ⟨fun _ => by omega, by omega, hu, .inl ⟨rfl, rfl, rfl⟩⟩, hu, rfl, rfl, rfl, by simp, by omega, Below.refl _ _⟩
  case round =>
    obtain ⟨v, k, t, hA, hv, rfl, rfl, rfl, ht, hk, hb⟩ := hrel
    have hbs := hb.size
    by_cases hgo : k = 0 ∨ 0 < v
    · have hk64 : k < 64 := by
        rcases hgo with h | h
        · omega
        · exact pow_pos_k hk hA.out.2.2.1 h
      have HG := Lib.hid hgo
      by_cases hk0 : k = 0
      · subst hk0
        clear hgo HG
        have cv := one_string v wr
        have HA : Hid ((v < gk) ∧ v ≤ gk ∧ v < 2 ^ (64 - 0) ∧ WordAt u v 0 t) := ⟨hA.out.1 rfl, hA.out.2⟩
        clear hA
        go_wp2
        go_roundg (v / 10)
        case measure => have := HA.out.1; omega
        case rel => exact ⟨v / 10, 1, _, ⟨fun h => by omega, by omega, pow_step (by omega) HA.out.2.2.1, HA.out.2.2.2.step (.inl rfl)⟩, by omega, by go_num, by simp; rfl, by go_num, by simp at ht ⊢; rw [ht], by omega, bel_new hb _⟩
      · have hk1 : ((k : Int) == 0) = false := by simp; omega
        have hv1 : (0 : Int) < (v : Int) := by omega
        have hvb : decide (0 < v) = true := by simp; omega
        have hvp : 0 < v := by omega
        clear hgo hk0
        have cv := one_string v wr
        have HA := Lib.hid hA.out
        clear hA
        go_wp2
        go_roundg (v / 10)
        case measure => have := HA.out.2.1; omega
        case rel => exact ⟨v / 10, k + 1, _, ⟨fun h => by omega, by omega, pow_step hk64 HA.out.2.2.1, HA.out.2.2.2.step HG.out⟩, by omega, by go_num, by simp; rfl, by go_num, by simp; omega, by omega, bel_new hb _⟩
    · have hk1 : ((k : Int) == 0) = false := by simp; omega
      have hv0 : v = 0 := by omega
      subst hv0
      have HT : Hid (Lib.decDigits u = t) := by
        rcases hA.out.2.2.2 with ⟨h, _⟩ | ⟨_, _, h⟩
        · omega
        · exact h rfl
      clear hA hgo
      go_wp2
      go_ret
      exact ⟨by rw [HT.out]; rfl, hb⟩
end Go.Proofs.YtpokpkocinhbfabDoor
