/-
  Tables: does each row come to an end (allEnd).
-/
import Derived.Test.YthmdapcieghbbabDoorMJ
import Derived.Test.YthmdapcieghbbabDoorMK
namespace Go.Proofs.YthmdapcieghbbabDoor
set_option linter.unusedVariables false
set_option maxRecDepth 20000
open Go.RowKit

theorem own_len {w : World} {B : Nat} {e : TypeId} {s : Nat} {v : Value} {n : Nat} {xs : List Value} (h : w.ownsRow B e s v n xs) : ∃ A c, v = .slice A n c := by
  rcases h.2 with ⟨rfl, rfl⟩ | ⟨g, cap, cur, rfl, _⟩
  · exact ⟨_, _, rfl⟩
  · exact ⟨_, _, rfl⟩
theorem stAt_users {T : List Rw} : ∀ (f : Nat) (m : Ms), stAt T f = some m → m.users = (measC T T.length).users
  | 0, m, h => by simp only [stAt] at h; injection h with h; subst h; rfl
  | f + 1, m, h => by
    simp only [stAt] at h
    split at h
    · cases h
    · rename_i m0 h0
      have h1 := stAt_users f m0 h0
      have hk := kf_all T f m0 h0
      unfold Ms.round at h
      split at h
      · cases h
      · rename_i hne
        split at h
        · cases h
        · injection h with h
          subst h
          have hlt : f < m0.ready.length := by have := hk.kn; omega
          exact ((tell_fold _ (m0.users _) m0 (hk.apart hlt)).2.2.1).trans h1

set_option maxHeartbeats 4000000 in
theorem allEnd_any (A B : Option Addr) (q b r : Nat) (T : List Rw) (w : World) (ht : TabOk w A T) (hr : Rises T) (h2 : ∀ r ∈ T, r.map.length ≤ 2) :
    Calls Tryd.prog 13 #[.agg #[.slice A T.length q, .slice B b r]] w (RetV (.bool (allEndC T)) w) := by
  have hfew := ht.few
  have hmp : ∀ i, (mp T i).length ≤ 2 := fun i => by
    unfold mp
    rcases Nat.lt_or_ge i T.length with h | h
    · exact h2 _ (getD_mem h)
    · rw [List.getD_eq_getElem?_getD, List.getElem?_eq_none h]
      simp [Rw.nil]
  have HMP := Lib.hid hmp
  have HUF := Lib.hid (users_few T (fun r hr => (ht.maps r hr).len))
  have HC := Lib.hid fun W (hb : Below w.heap.size w W) => measures_any A B q b r T W (ht.below hb) hr
  obtain ⟨n, hn'⟩ : ∃ n, T.length = n := ⟨_, rfl⟩
  rw [hn'] at hfew HC ⊢
  have HN := Lib.hid hn'
  have h0 : Hid (stAt T 0 = some (measC T n)) := Lib.hid (by rw [← hn']; rfl)
  have hres : Hid (∀ m, stAt T n = some m → allEndC T = true) := Lib.hid fun m h => by unfold allEndC; rw [hn', h]; rfl
  have hrno : Hid (∀ f, f < n → stAt T (f + 1) = none → allEndC T = false) := Lib.hid fun f hf h => by unfold allEndC; rw [hn', stAt_none h n (by omega)]; rfl
  clear hn' ht hr h2 hmp
  have bW := below_new w (.cells #[.slice A n q, .slice B b r] 34)
  have hX := Blk.new w 34 #[.slice A n q, .slice B b r]
  have e0 := (hX.cell 0).trans rfl
  have e1 := (hX.cell 1).trans rfl
  go_enter Tryd.func13, Tryd.ntmps13
  go_wp2_with fail
  generalize w.alloc (.cells #[.slice A n q, .slice B b r] 34) = V at *
  refine (HC.out _ bW).mono ?_
  rintro e w1 ⟨gL, gW, gU, us, vR, tag, rfl, hI, y1⟩
  obtain ⟨vA, vc, rfl⟩ := own_len hI.ready
  have hX1 := hX.on y1
  have b1 := below_step bW y1
  have hV := bW.size
  have hw1 := y1.size
  have hM := Blk.new w1 69 #[.slice (some ⟨gL, 0, none⟩) n n, .slice (some ⟨gW, 0, none⟩) n n, .slice (some ⟨gU, 0, none⟩) n n, .slice vA (measC T n).ready.length vc]
  have hI1 := hI.alloc (.cells #[.slice (some ⟨gL, 0, none⟩) n n, .slice (some ⟨gW, 0, none⟩) n n, .slice (some ⟨gU, 0, none⟩) n n, .slice vA (measC T n).ready.length vc] 69)
  have hX2 := hX1.alloc (.cells #[.slice (some ⟨gL, 0, none⟩) n n, .slice (some ⟨gW, 0, none⟩) n n, .slice (some ⟨gU, 0, none⟩) n n, .slice vA (measC T n).ready.length vc] 69)
  have b2 := below_step b1 (below_new w1 (.cells #[.slice (some ⟨gL, 0, none⟩) n n, .slice (some ⟨gW, 0, none⟩) n n, .slice (some ⟨gU, 0, none⟩) n n, .slice vA (measC T n).ready.length vc] 69))
  have x0 := (hX2.cell 0).trans rfl
  have hBx : Bx _ V.heap.size n w1.heap.size gL gW gU us _ tag (measC T n) := ⟨hM, hI1, hw1⟩
  clear e0 e1 hX1 b1 hM hI1 hI y1 hX HC bW
  have HU1 := Lib.hid fun t => HUF.out n t
  clear HUF
  generalize hm0 : measC T n = m0 at *
  have HM0 := Lib.hid hm0
  clear hm0
  generalize m0.ready.length = r0 at *
  go_wp2
  generalize w1.alloc (.cells #[.slice (some ⟨gL, 0, none⟩) n n, .slice (some ⟨gW, 0, none⟩) n n, .slice (some ⟨gU, 0, none⟩) n n, .slice vA r0 vc] 69) = W2 at *
  clear x0
  generalize V.heap.size = base at *
  generalize w1.heap.size = gM at *
  go_loopw [11] (fun s wr => ∃ (f : Nat) (vR : Value) (tag : Nat → Nat) (m : Ms), s = .int .i64 (f : Int) ∧ f ≤ n ∧ stAt T f = some m ∧ Bx wr base n gM gL gW gU us vR tag m ∧ Blk wr w.heap.size 34 #[.slice A n q, .slice B b r] ∧ Below w.heap.size w wr) (fun s _ => n - (intOf s).toNat)
  case atStart => exact ⟨0, _, tag, m0, rfl, by omega, h0.out, hBx, hX2, b2⟩
  case round =>
    obtain ⟨f, vR, tag', m, rfl, hf0, hst, hx, hX, hb⟩ := hrel
    clear hBx hX2 b2
    have HST := Lib.hid hst
    have hkf := kf_all T f m hst
    have hus := stAt_users f m hst
    rw [HN.out, HM0.out] at hus
    clear hst
    by_cases hf : f < n
    · obtain ⟨rA, rc, rfl⟩ := own_len hx.I.ready
      have n3 := hx.m3
      have hno := hrno.out f hf
      have hkn := hkf.kn
      by_cases he : f = m.ready.length
      · have hnone : Hid (allEndC T = false) := Lib.hid (hno (by simp only [stAt]; rw [HST.out]; simp only; unfold Ms.round; rw [if_pos he]))
        clear hno hkf hus hkn
        generalize m.ready.length = rl at *
        subst he
        go_wp2
        go_ret
        exact ⟨by rw [hnone.out]; rfl, hb⟩
      · have hlt : f < m.ready.length := by omega
        have hap := hkf.apart hlt
        have hil := hkf.lt (getD_mem' hlt)
        rw [HN.out] at hil
        have hrow := hx.I.ready
        obtain ⟨g, cap, hAe, hcap, hg1, hg2, hc⟩ := own_cells hrow (by omega)
        have cf := (hc f hlt).trans (cellsOf_get _ _ hlt)
        injection hAe with hAe _ _
        subst hAe
        have hstep : Hid (stAt T (f + 1) = if m.len (m.ready.getD f 0) > 32 then none else some (m.tell (m.ready.getD f 0))) := Lib.hid (by simp only [stAt]; rw [HST.out]; simp only; unfold Ms.round; rw [if_neg he])
        have hl65 : ∀ x, x < n → m.len x ≤ 40000000 := fun x hx' => by
          have h1 := hkf.len_le (i := x) (by rw [HN.out]; exact hx')
          have h2 := HMP.out x
          omega
        have hw2 : ∀ x, x < n → -1000000 ≤ m.wants x ∧ m.wants x ≤ 1000000 := fun x hx' => by
          have h1 := hkf.wants_le (i := x) (by rw [HN.out]; exact hx')
          have h2 := HMP.out x
          omega
        have hul : (m.users (m.ready.getD f 0)).length ≤ 1000000000000 := by
          rw [hus]
          have := HU1.out (m.ready.getD f 0)
          omega
        have hu : ∀ u ∈ m.users (m.ready.getD f 0), u < n := fun u hu => by
          have := hkf.users_lt hu
          rw [HN.out] at this
          exact this
        have hrl := hkf.few
        rw [HN.out] at hrl
        clear hkf hus hrow hcap hc
        generalize m.ready.getD f 0 = i at *
        generalize hrlen : m.ready.length = rl at *
        have HRL := Lib.hid hrlen
        clear hrlen
        have n0 := hx.m0
        obtain ⟨v1, f1, l1⟩ := hx.I.cellL hil
        have hfr : ((f : Int) == (rl : Int)) = false := by rw [beq_eq_false_iff_ne]; omega
        have hff : (f : Int) < (rl : Int) := by omega
        by_cases hbig : m.len i > 32
        · have hnone : Hid (allEndC T = false) := Lib.hid (hno (by rw [hstep.out, if_pos hbig]))
          have hbig' : (m.len i : Int) > 32 := by omega
          clear hno hl65 hw2 hu hul
          go_wp2
          go_ret
          exact ⟨by rw [hnone.out]; rfl, hb⟩
        · have hbig' : ¬ (m.len i : Int) > 32 := by omega
          have HT := Lib.hid (tell_any wr base n gM gL gW gU i us _ tag' m hx (by have := hx.I.bL; have := (hx.I.cellL hil).2.2; omega) hil hfew hap hl65 (by omega) hw2 hul hu (by rw [HRL.out]; omega))
          have hnext : Hid (stAt T (f + 1) = some (m.tell i)) := Lib.hid (by rw [hstep.out, if_neg hbig])
          clear hno hl65 hw2 hu hul hstep hap
          go_wp2_with fail
          refine HT.out.mono ?_
          rintro e w4 ⟨rfl, ⟨vR', tag'', hx4⟩, ho4, hb4⟩
          clear n0 n3 v1 f1 cf
          go_wp2
          go_roundw
          case rel => exact ⟨f + 1, vR', tag'', m.tell i, by go_num, by omega, hnext.out, hx4, ho4 _ _ _ (by decide) (by decide) (by decide) hX, hb.trans (hb4.mono (by omega))⟩
          case measure => simp [intOf]; omega
    · obtain rfl : f = n := by omega
      have hr := Lib.hid (hres.out m HST.out)
      go_wp2
      go_ret
      exact ⟨by rw [hr.out]; rfl, hb⟩
end Go.Proofs.YthmdapcieghbbabDoor
