/-
  The document's number, First: their contracts.
-/
import Derived.Test.YtobfhidajcnfdabDoorUD
import Derived.Test.YtobfhidajcnfdabDoorSince
namespace Go.Proofs.YtobfhidajcnfdabDoor
set_option linter.unusedVariables false
set_option maxRecDepth 20000
open Go.RowKit Go.Lib

/-- The document's number of the first i bytes of a text of L bytes. -/
def numR (L : Nat) (bs : List UInt8) : Nat → Int
  | 0 => 0
  | 1 => ((bs.getD 0 0).toNat : Int) - (if L = 2 then 192 else if L = 3 then 224 else if L = 4 then 240 else 0)
  | i + 2 => numR L bs (i + 1) * 64 + ((bs.getD (i + 1) 0).toNat : Int) - 128
theorem numR_step (L : Nat) (bs : List UInt8) {i : Nat} (h : 1 ≤ i) : numR L bs (i + 1) = numR L bs i * 64 + ((bs.getD i 0).toNat : Int) - 128 := by
  obtain ⟨i, rfl⟩ : ∃ j, i = j + 1 := ⟨i - 1, by omega⟩
  rfl
theorem getB_lt (bs : List UInt8) (i : Nat) : (bs.getD i 0).toNat < 256 := UInt8.toNat_lt _
theorem numR_bound (L : Nat) (bs : List UInt8) {i : Nat} (h : 1 ≤ i) (hi : i ≤ 4) : -100000000 < numR L bs i ∧ numR L bs i < 100000000 := by
  have h1 : -300 < numR L bs 1 ∧ numR L bs 1 < 300 := by
    have := getB_lt bs 0
    show -300 < ((bs.getD 0 0).toNat : Int) - _ ∧ ((bs.getD 0 0).toNat : Int) - _ < 300
    (repeat' split) <;> omega
  have b1 := getB_lt bs 1
  have b2 := getB_lt bs 2
  have b3 := getB_lt bs 3
  have h2 : numR L bs 2 = _ := numR_step L bs (i := 1) (by omega)
  have h3 : numR L bs 3 = _ := numR_step L bs (i := 2) (by omega)
  have h4 : numR L bs 4 = _ := numR_step L bs (i := 3) (by omega)
  rcases (show i = 1 ∨ i = 2 ∨ i = 3 ∨ i = 4 by omega) with rfl | rfl | rfl | rfl <;> omega
theorem numR_enc {c : Nat} (hc : isC c) : numR (wid c) (enc c) (wid c) = c := by
  have hle := hc.le
  by_cases h1 : c < 128
  · have hw : wid c = 1 := by simp [wid, h1]
    rw [hw, enc1 h1]
    simp only [numR, List.getD_cons_zero, toNat_of (show c < 256 by omega)]; simp
  by_cases h2 : c < 2048
  · have hw : wid c = 2 := by simp [wid, h1, h2]
    rw [hw, enc2 h1 h2]
    have e0 : (UInt8.ofNat (192 + c / 64)).toNat = 192 + c / 64 := toNat_of (by omega)
    have e1 : (UInt8.ofNat (128 + c % 64)).toNat = 128 + c % 64 := toNat_of (by omega)
    simp only [numR, List.getD_cons_succ, List.getD_cons_zero, e0, e1, if_pos]; omega
  by_cases h3 : c < 65536
  · have hw : wid c = 3 := by simp [wid, h1, h2, h3]
    rw [hw, enc3 h1 h2 h3]
    have e0 : (UInt8.ofNat (224 + c / 4096)).toNat = 224 + c / 4096 := toNat_of (by omega)
    have e1 : (UInt8.ofNat (128 + c / 64 % 64)).toNat = 128 + c / 64 % 64 := toNat_of (by omega)
    have e2 : (UInt8.ofNat (128 + c % 64)).toNat = 128 + c % 64 := toNat_of (by omega)
    simp only [numR, List.getD_cons_succ, List.getD_cons_zero, e0, e1, e2, if_neg (show ¬ (3 : Nat) = 2 by decide), if_pos]; omega
  · have hw : wid c = 4 := by simp [wid, h1, h2, h3]
    rw [hw, enc4 h1 h2 h3]
    have e0 : (UInt8.ofNat (240 + c / 262144)).toNat = 240 + c / 262144 := toNat_of (by omega)
    have e1 : (UInt8.ofNat (128 + c / 4096 % 64)).toNat = 128 + c / 4096 % 64 := toNat_of (by omega)
    have e2 : (UInt8.ofNat (128 + c / 64 % 64)).toNat = 128 + c / 64 % 64 := toNat_of (by omega)
    have e3 : (UInt8.ofNat (128 + c % 64)).toNat = 128 + c % 64 := toNat_of (by omega)
    simp only [numR, List.getD_cons_succ, List.getD_cons_zero, e0, e1, e2, e3, if_neg (show ¬ (4 : Nat) = 2 by decide), if_neg (show ¬ (4 : Nat) = 3 by decide), if_pos]; omega

set_option maxHeartbeats 1000000 in
theorem number_any (s : ByteArray) (L : Nat) (hL : s.size = L) (h1 : 1 ≤ L) (h4 : L ≤ 4) (w : World) : Calls Tryd.prog 28 #[.string s] w (RetV (.int .i64 (numR L s.data.toList L)) w) := by
  obtain ⟨bs, hbs⟩ : ∃ bs, Hid (s.data.toList = bs) := ⟨_, rfl⟩
  rw [hbs.out]
  have hpos : 0 < s.size := by omega
  obtain ⟨b0, hb0⟩ : ∃ b0, s[0].toNat = b0 := ⟨_, rfl⟩
  have hb0' : (bs.getD 0 0).toNat = b0 := by rw [← hbs.out, byte_at s 0 hpos, hb0]
  have hb256 : b0 < 256 := by rw [← hb0]; exact UInt8.toNat_lt _
  have en : numR L bs 1 = (b0 : Int) - (if L = 2 then 192 else if L = 3 then 224 else if L = 4 then 240 else 0) := by rw [← hb0']; rfl
  have hloop : ∀ i b, 1 ≤ i → i < L → (bs.getD i 0).toNat = b → numR L bs (i + 1) = numR L bs i * 64 + (b : Int) - 128 := fun i b h2 h3 hb => by rw [numR_step L bs h2, hb]
  have hloop := Lib.hid hloop
  have hbd : ∀ i, 1 ≤ i → i ≤ 4 → -100000000 < numR L bs i ∧ numR L bs i < 100000000 := fun i h2 h3 => numR_bound L bs h2 h3
  have hbd := Lib.hid hbd
  have hcase : (L = 1 ∧ numR L bs 1 = b0) ∨ (L = 2 ∧ numR L bs 1 = b0 - 192) ∨ (L = 3 ∧ numR L bs 1 = b0 - 224) ∨ (L = 4 ∧ numR L bs 1 = b0 - 240) := by
    rw [en]
    (repeat' split) <;> omega
  clear en hb0'
  go_enter Tryd.func28, Tryd.ntmps28
  rcases hcase with ⟨rfl, en⟩ | ⟨rfl, en⟩ | ⟨rfl, en⟩ | ⟨rfl, en⟩
  · rw [en]
    go_wp2_with fail
    go_loopw [3, 4] (fun c3 i4 wr => wr = w ∧ c3 = .int .i64 b0 ∧ i4 = .int .i64 1) (fun _ _ _ => 0)
    case atStart => exact ⟨rfl, rfl, rfl⟩
    case round =>
      obtain ⟨rfl, rfl, rfl⟩ := hrel
      go_wp2
      go_ret
      exact ⟨rfl, Below.refl _ _⟩
  all_goals
    go_wp2_with fail
    rw [← en]
    have en := Lib.hid en
    obtain ⟨LL, hLL⟩ : ∃ LL, s.size = LL := ⟨_, rfl⟩
    go_loopw [3, 4] (fun c3 i4 wr => wr = w ∧ ∃ i : Nat, 1 ≤ i ∧ i ≤ LL ∧ i4 = .int .i64 i ∧ c3 = .int .i64 (numR LL bs i)) (fun _ i4 _ => LL - (intOf i4).toNat)
    case atStart => exact ⟨rfl, 1, by omega, by omega, rfl, by rw [← hLL, hL]⟩
    case round =>
      obtain ⟨rfl, i, hi1, hiL, rfl, rfl⟩ := hrel
      rw [← hLL, hL] at hiL ⊢
      by_cases hil : i < s.size
      · obtain ⟨b, hb⟩ : ∃ b, s[i].toNat = b := ⟨_, rfl⟩
        have hb' : (bs.getD i 0).toNat = b := by rw [← hbs.out, byte_at s i hil, hb]
        have hbl : b < 256 := by rw [← hb]; exact UInt8.toNat_lt _
        have hst := hloop.out i b hi1 (by omega) hb'
        have hb1 := hbd.out i hi1 (by omega)
        have hb2 := hbd.out (i + 1) (by omega) (by omega)
        generalize numR _ bs i = C at *
        obtain ⟨hb11, hb12⟩ := hb1
        go_wp2
        go_roundw
        case rel => exact ⟨trivial, i + 1, by omega, by omega, by go_num, by rw [hst]⟩
        case measure => simp [intOf]; omega
      · have hie : i = s.size := by omega
        rw [hL] at hie
        subst hie
        generalize numR _ bs _ = C at *
        go_wp2
        go_ret
        exact ⟨rfl, Below.refl _ _⟩

theorem take_list (s : ByteArray) (n : Nat) : (s.extract 0 n).data.toList = s.data.toList.take n := by
  simp [ByteArray.data_extract, Array.toList_extract, List.extract_eq_take_drop]
theorem str_eq {a b : List UInt8} {s : ByteArray} (h : s.data.toList = b) : ((⟨a.toArray⟩ : ByteArray) = s) ↔ a = b := by
  constructor
  · rintro rfl; simpa using h
  · rintro rfl
    apply ByteArray.ext
    apply Array.toList_inj.1
    simp [h]

set_option maxHeartbeats 4000000 in
theorem first_any (s : ByteArray) (w : World) (hs : s.size ≤ 1000000) (c k : Nat) (h : FirstIs s.data.toList c k) :
    Calls Tryd.prog 21 #[.string s] w (RetV (.tuple #[.int .i64 (c : Nat), .int .i64 (k : Nat)]) w) := by
  obtain ⟨bs, hbs⟩ : ∃ bs, Hid (s.data.toList = bs) := ⟨_, rfl⟩
  rw [hbs.out] at h
  have hlen : bs.length = s.size := by rw [← hbs.out]; exact Array.length_toList
  have hkl := h.le
  rw [hlen] at hkl
  have hmatch : ∀ n d, isC d → enc d = bs.take n → 1 ≤ n → n ≤ s.size → d = c ∧ n = k := fun n d hd he h1 h2 => by
    have hb : Begins bs d := ⟨hd, bs.drop n, by rw [he, List.take_append_drop]⟩
    obtain ⟨e1, e2⟩ := h.inj (.inl ⟨hb, rfl⟩)
    refine ⟨e1.symm, ?_⟩
    rw [e2, ← enc_length d, he, List.length_take, hlen]
    omega
  replace hmatch := Lib.hid hmatch
  have hgood : 0 < k → isC c ∧ enc c = bs.take k ∧ numR k (bs.take k) k = c := fun h0 => by
    rcases h with ⟨⟨hc, t, ht⟩, rfl⟩ | ⟨_, h1, _⟩
    · have e : enc c = bs.take (wid c) := by rw [ht, ← enc_length c, List.take_left]
      exact ⟨hc, e, by rw [← e]; exact numR_enc hc⟩
    · omega
  replace hgood := Lib.hid hgood
  go_enter Tryd.func21, Tryd.ntmps21
  go_wp2_with fail
  go_loopw [4] (fun n4 wr => Below w.heap.size w wr ∧ ∃ n : Nat, 1 ≤ n ∧ n ≤ 5 ∧ n4 = .int .i64 n ∧ (k = 0 ∨ n ≤ k)) (fun n4 _ => 5 - (intOf n4).toNat)
  case atStart => exact ⟨Below.refl _ _, 1, by omega, by omega, rfl, by omega⟩
  case round =>
    obtain ⟨hbw, n, hn1, hn5, rfl, hnk⟩ := hrel
    by_cases hin : n < 5 ∧ n ≤ s.size
    · obtain ⟨hn4, hns⟩ := hin
      have hsz : (s.extract 0 n).size = n := by rw [ByteArray.size_extract]; omega
      have HN := Lib.hid fun W => number_any (s.extract 0 n) n hsz hn1 (by omega) W
      rw [take_list, hbs.out] at HN
      obtain ⟨v, hv⟩ : ∃ v, Hid (numR n (bs.take n) n = v) := ⟨_, rfl⟩
      rw [hv.out] at HN
      have hlist : (s.extract 0 n).data.toList = bs.take n := by rw [take_list, hbs.out]
      rcases hi : isI v with _ | _
      · have hne : n ≠ k := fun e => by
          subst e
          obtain ⟨h1, h2, h3⟩ := hgood.out (by omega)
          rw [hv.out] at h3
          rw [h3, (isI_iff _).2 ⟨by omega, by simpa using h1⟩] at hi
          cases hi
        have HI := Lib.hid fun W => refIs_any v W
        rw [hi] at HI
        clear hlist hsz hmatch hgood
        go_wp2_with fail
        refine (HN.out _).mono ?_
        rintro e w1 ⟨rfl, y1⟩
        go_wp2_with fail
        refine wp_region_since (by kernel_rfl) (by kernel_rfl) ?_
        repeat (go_big_quiet_step ((go_at_call 14; exact since_call (HI.out _))))
        refine wpQuiet_nil ?_
        rintro _ ⟨⟨w2, y2⟩, rfl⟩
        have hb2 := below_step hbw (below_step y1 y2)
        go_wp2
        go_roundw
        case rel => exact ⟨hb2, n + 1, by omega, by omega, by go_num, by omega⟩
        case measure => simp [intOf]; omega
      · have hvc := (isI_iff v).1 hi
        obtain ⟨d, rfl⟩ : ∃ d : Nat, v = d := ⟨v.toNat, by omega⟩
        have hdc : isC d := by simpa using hvc.2
        have hdl := hdc.le
        have HI := Lib.hid fun W => refIs_any d W
        rw [hi] at HI
        have HB := Lib.hid fun W => refBytes_any d hdc W
        have hdi : (d : Int) ≤ 1114111 := by omega
        by_cases heq : enc d = bs.take n
        · obtain ⟨rfl, rfl⟩ := hmatch.out n d hdc heq hn1 hns
          have hse : (⟨(enc d).toArray⟩ : ByteArray) = s.extract 0 n := (str_eq hlist).2 heq
          rw [hse] at HB
          clear hlist hsz hmatch hgood heq hse hdl hi hvc hkl hdi
          go_wp2_with fail
          refine (HN.out _).mono ?_
          rintro e w1 ⟨rfl, y1⟩
          go_wp2_with fail
          refine wp_region_since (by kernel_rfl) (by kernel_rfl) ?_
          repeat (go_big_quiet_step ((first | (go_at_call 14; exact since_call (HI.out _)) | (go_at_call 17; exact since_call (HB.out _)))))
          refine wpQuiet_nil ?_
          rintro _ ⟨⟨w2, y2⟩, rfl⟩
          have hb2 := below_step hbw (below_step y1 y2)
          go_wp2
          go_ret2
          exact ⟨rfl, hb2⟩
        · have hne : n ≠ k := fun e => by
            subst e
            obtain ⟨h1, h2, h3⟩ := hgood.out (by omega)
            rw [hv.out] at h3
            have : d = c := by omega
            subst this
            exact heq h2
          have hse : ((⟨(enc d).toArray⟩ : ByteArray).toList == (s.extract 0 n).toList) = false := by
            rw [ByteArray.toList_eq, ByteArray.toList_eq, beq_eq_false_iff_ne, hlist]
            exact heq
          generalize (enc d).toArray = E at *
          clear hlist hsz hmatch hgood heq hdl hi hvc hkl hdi
          go_wp2_with fail
          refine (HN.out _).mono ?_
          rintro e w1 ⟨rfl, y1⟩
          go_wp2_with fail
          refine wp_region_since (by kernel_rfl) (by kernel_rfl) ?_
          repeat (go_big_quiet_step ((first | (go_at_call 14; exact since_call (HI.out _)) | (go_at_call 17; exact since_call (HB.out _)))))
          refine wpQuiet_nil ?_
          rintro _ ⟨⟨w2, y2⟩, rfl⟩
          have hb2 := below_step hbw (below_step y1 y2)
          go_wp2
          go_roundw
          case rel => exact ⟨hb2, n + 1, by omega, by omega, by go_num, by omega⟩
          case measure => simp [intOf]; omega
    · have hk0 : k = 0 := by omega
      have hc0 : c = 0 := by
        rcases h with ⟨_, h1⟩ | ⟨h1, _, _⟩
        · have := wid_pos c; omega
        · exact h1
      subst hk0
      subst hc0
      by_cases hn5' : n < 5
      · have hns : ¬ n ≤ s.size := fun h2 => hin ⟨hn5', h2⟩
        go_wp2
        go_ret2
        exact ⟨rfl, hbw⟩
      · obtain rfl : n = 5 := by omega
        go_wp2
        go_ret2
        exact ⟨rfl, hbw⟩
end Go.Proofs.YtobfhidajcnfdabDoor
