/-
  The document's bytes of a number; a text as bytes.
-/
import Derived.Test.YtobfhidajcnfdaaDoorTakeE
import Derived.Shelf.Bytes.SlSmallAll
import Derived.Laws.IdiomStrings
namespace Go.Proofs.YtobfhidajcnfdaaDoor
set_option linter.unusedVariables false
set_option maxRecDepth 20000
open Go.RowKit

/-- 'string(b)' of a row of one's own. -/
theorem own_string {w : World} {B : Nat} {u : Value} {bs : List UInt8} (h : w.ownsRow B 5 1 u bs.length (Lib.byteCells bs)) :
    ∃ ao cap, u = .slice ao bs.length cap ∧ (convert 42 9 (.slice ao bs.length cap)).run Tryd.prog w = .ok (.string ⟨bs.toArray⟩) w := by
  rcases bs with _ | ⟨b, r⟩
  · obtain ⟨ao, cap, e⟩ := own_form h
    exact ⟨ao, cap, e, run_convert_bytes_zero w 42 5 Tryd.underlying42 Tryd.underlying5 ao cap 9 Tryd.underlying9⟩
  · obtain ⟨g, cap, e⟩ := ownsRow_succ (k := r.length) h
    exact ⟨_, cap, e, conv_own (g := g) (cap := cap) (by rw [← List.length_cons (a := b)] at e; exact e ▸ h)⟩

/-- '[]byte(s)'. -/
theorem bytes_of (s : ByteArray) (w : World) : ∃ cap w', (convert 9 42 (.string s)).run Tryd.prog w = .ok (.slice (some ⟨w.heap.size, 0, none⟩) s.size cap) w' ∧ Byt w' (some ⟨w.heap.size, 0, none⟩) s.data.toList ∧ Below w.heap.size w w' := by
  refine ⟨_, _, run_bytes_of_string w 9 42 5 s Tryd.underlying9 Tryd.underlying42 Tryd.underlying5, ?_, ((Below.refl _ _).drew).alloc (Nat.le_refl _) _⟩
  intro hne
  refine ⟨_, rfl, by simp, fun j u hu => ?_⟩
  have hj : j < s.size := by
    rcases Nat.lt_or_ge j s.size with h | h
    · exact h
    · rw [List.getElem?_eq_none (by simp [Lib.byteCells]; exact h)] at hu; cases hu
  rw [add_off, Nat.zero_add, show (w.heap.size : Nat) = w.drew.heap.size from rfl, cell_of_row _ _ _ _ _ _ (heap_alloc_new w.drew _), bytesRow_at s _ j hj]
  simp only [Lib.byteCells, List.getElem?_map] at hu
  rw [List.getElem?_eq_getElem (by rw [Array.length_toList]; exact hj)] at hu
  simpa using hu

theorem beVal_beBytes : ∀ (k n : Nat), n < 256 ^ k → beVal (beBytes k n) = n
  | 0, n, h => by
    have : n = 0 := by simpa using h
    subst this; rfl
  | k + 1, n, h => by
    have e : n = n / 256 * 256 + n % 256 := by omega
    have h1 : n / 256 < 256 ^ k := by
      rw [Nat.pow_succ] at h
      generalize 256 ^ k = P at *
      omega
    conv => lhs; rw [e]
    rw [beBytes_snoc _ _ _ (Nat.mod_lt _ (by decide)), beVal_snoc, beVal_beBytes k _ h1, UInt8.toNat_ofNat']
    omega

/-- What Put writes: four bytes, and the number's. -/
theorem put_form (N : Nat) : ∃ bs : List UInt8, putBytes N = beBytes 4 bs.length ++ bs ∧ bs.length = bytesLen N ∧ beVal bs = N ∧ (bs.length ≠ 0 → bs[0]? ≠ some 0) := by
  have hlt : N < 256 ^ bytesLen N := by
    have := (bl_spec N (8 * bytesLen N)).1 (by unfold bytesLen; omega)
    rwa [Nat.pow_mul] at this
  refine ⟨beBytes (bytesLen N) N, by rw [beBytes_length]; rfl, beBytes_length _ _, beVal_beBytes _ _ hlt, fun h0 h1 => ?_⟩
  rw [beBytes_length] at h0
  obtain ⟨m, hm⟩ : ∃ m, bytesLen N = m + 1 := ⟨bytesLen N - 1, by omega⟩
  rw [hm] at h1 hlt
  have hge : ¬ N < 256 ^ m := fun h2 => by
    have h3 : bl N ≤ 8 * m := (bl_spec N (8 * m)).2 (by rw [Nat.pow_mul]; exact h2)
    unfold bytesLen at hm; omega
  have hd1 : 1 ≤ N / 256 ^ m := (Nat.le_div_iff_mul_le (Nat.pow_pos (by decide))).2 (by omega)
  have hd2 : N / 256 ^ m < 256 := (Nat.div_lt_iff_lt_mul (Nat.pow_pos (by decide))).2 (by rw [Nat.mul_comm, ← Nat.pow_succ]; exact hlt)
  unfold beBytes at h1
  simp only [List.getElem?_map, List.getElem?_range (show 0 < m + 1 by omega), Option.map_some, Option.some.injEq, Nat.add_sub_cancel, Nat.sub_zero] at h1
  have h2 := congrArg UInt8.toNat h1
  rw [UInt8.toNat_ofNat'] at h2
  simp at h2
  omega

theorem ext_list (s : ByteArray) (a b : Nat) : (s.extract a b).data.toList = (s.data.toList.drop a).take (b - a) := by
  simp [ByteArray.data_extract, Array.toList_extract, List.extract_eq_take_drop]

/-- Take undoes Put. -/
theorem take_put (bs : List UInt8) (rs Z : ByteArray) (N : Nat) (hn : bs.length ≤ 100000) (hV : beVal bs = N) (h0 : bs.length ≠ 0 → bs[0]? ≠ some 0) (hr : rs.size ≤ 100000) (hZ : Z.data.toList = beBytes 4 bs.length ++ bs ++ rs.data.toList) (W : World) :
    Calls Tryd.prog 23 #[.string Z] W (RetTk ((bs.length + 3) / 4) N rs 0 W) := by
  have hl : Z.size = 4 + bs.length + rs.size := by
    have := congrArg List.length hZ
    rw [Array.length_toList, List.length_append, List.length_append, beBytes_length, Array.length_toList] at this
    exact this
  have hd : Z.data.toList.drop 4 = bs ++ rs.data.toList := by
    rw [hZ, List.append_assoc, List.drop_left' (beBytes_length _ _)]
  have htold : told Z = bs.length := by
    rw [told, ext_list, List.drop_zero, hZ, List.append_assoc, List.take_left' (beBytes_length _ _)]
    exact beVal_beBytes 4 _ (by omega)
  refine take_ok Z W bs.length N rs (by omega) (by omega) htold (by omega) (fun h5 hp => ?_) ?_ ?_
  · intro e
    refine h0 (by omega) ?_
    have h1 : (Z.data.toList.drop 4)[0]? = some Z[4] := by
      rw [List.getElem?_drop]
      exact List.getElem?_eq_getElem (by rw [Array.length_toList]; exact h5)
    rw [hd, List.getElem?_append_left (by omega), e] at h1
    exact h1
  · show beVal _ = N
    rw [ext_list, ext_list, List.drop_zero, hd, List.take_take, List.take_left' (by omega)]
    exact hV
  · show _ = rs
    apply ByteArray.ext
    apply Array.toList_inj.1
    have e : (bs ++ rs.data.toList).take (Z.size - 4) = bs ++ rs.data.toList := List.take_of_length_le (by rw [List.length_append, Array.length_toList]; show bs.length + rs.size ≤ _; omega)
    rw [ext_list, ext_list, hd, e, List.drop_left' rfl]
    exact List.take_of_length_le (by rw [Array.length_toList]; show rs.size ≤ _; omega)

theorem beBytes_four (n : Nat) : beBytes 4 n = [UInt8.ofNat (n / 16777216 % 256), UInt8.ofNat (n / 65536 % 256), UInt8.ofNat (n / 256 % 256), UInt8.ofNat (n % 256)] := by
  simp [beBytes, List.range, List.range.loop]
theorem byte_small {x : Nat} (h : x < 256) : (UInt8.ofNat (x % 256)).toNat = x := by
  rw [UInt8.toNat_ofNat']; omega
theorem four_string (n : Nat) (hn : n ≤ 1000000) (w : World) : (convert 42 9 (.slice (some ⟨w.heap.size, 0, none⟩) 4 4)).run Tryd.prog (w.alloc (.cells #[.int .u8 ((n : Int) / 16777216), .int .u8 ((n : Int) / 65536), .int .u8 ((n : Int) / 256 % 256), .int .u8 ((n : Int) % 256)] 5)) = .ok (.string ⟨(beBytes 4 n).toArray⟩) (w.alloc (.cells #[.int .u8 ((n : Int) / 16777216), .int .u8 ((n : Int) / 65536), .int .u8 ((n : Int) / 256 % 256), .int .u8 ((n : Int) % 256)] 5)) := by
  rw [beBytes_four]
  refine run_convert_bytes_back _ 42 9 5 ⟨w.heap.size, 0, none⟩ 4 [UInt8.ofNat (n / 16777216 % 256), UInt8.ofNat (n / 65536 % 256), UInt8.ofNat (n / 256 % 256), UInt8.ofNat (n % 256)] Tryd.underlying42 Tryd.underlying5 Tryd.underlying9 ?_
  intro j hj
  rw [add_off, (Blk.new w 5 _).cell]
  have e1 := byte_small (x := n / 16777216) (by omega)
  have e2 := byte_small (x := n / 65536) (by omega)
  have e3 : (UInt8.ofNat (n / 256 % 256)).toNat = n / 256 % 256 := by rw [UInt8.toNat_ofNat']; omega
  have e4 : (UInt8.ofNat (n % 256)).toNat = n % 256 := by rw [UInt8.toNat_ofNat']; omega
  rcases (show j = 0 ∨ j = 1 ∨ j = 2 ∨ j = 3 by simp at hj; omega) with rfl | rfl | rfl | rfl
  · simp only [List.getElem_cons_zero, e1]; simp
  · simp only [List.getElem_cons_succ, List.getElem_cons_zero, e2]; simp
  · simp only [List.getElem_cons_succ, List.getElem_cons_zero, e3]; simp
  · simp only [List.getElem_cons_succ, List.getElem_cons_zero, e4]; simp

theorem refBytes_any (B : Nat) (u : Value) (bs : List UInt8) (w : World) (hown : w.ownsRow B 5 1 u bs.length (Lib.byteCells bs)) (hn : bs.length ≤ 1000) :
    Calls Tryd.prog 22 #[u] w (RetV (.string ⟨(beBytes 4 bs.length ++ bs).toArray⟩) w) := by
  have c1 := four_string bs.length (by omega) w
  have e3 : ((bs.length : Int) / 256 % 256) = (bs.length : Int) / 256 := by omega
  rw [e3] at c1
  clear e3
  have hown2 := hown.alloc (.cells #[.int .u8 ((bs.length : Int) / 16777216), .int .u8 ((bs.length : Int) / 65536), .int .u8 ((bs.length : Int) / 256), .int .u8 ((bs.length : Int) % 256)] 5)
  obtain ⟨ao, cap, rfl, c2⟩ := own_string hown2
  have hcat : (⟨(beBytes 4 bs.length).toArray⟩ : ByteArray) ++ ⟨bs.toArray⟩ = ⟨(beBytes 4 bs.length ++ bs).toArray⟩ := by
    apply ByteArray.ext
    rw [ByteArray.data_append]
    simp
  rw [← hcat]
  have hbl := beBytes_length 4 bs.length
  have hs1 : (⟨(beBytes 4 bs.length).toArray⟩ : ByteArray).size = 4 := by show (beBytes 4 bs.length).toArray.size = 4; simpa using hbl
  have hs2 : (⟨bs.toArray⟩ : ByteArray).size = bs.length := by show bs.toArray.size = _; simp
  have HS1 : (⟨(beBytes 4 bs.length).toArray⟩ : ByteArray).size + (⟨bs.toArray⟩ : ByteArray).size ≤ 2000 := by omega
  clear hcat hbl hown2 hs1 hs2
  generalize (⟨(beBytes 4 bs.length).toArray⟩ : ByteArray) = X at *
  generalize (⟨bs.toArray⟩ : ByteArray) = Y at *
  generalize bs.length = n at *
  go_enter Tryd.func22, Tryd.ntmps22
  go_wp2
  go_ret
  exact ⟨rfl, below_new _ _⟩
end Go.Proofs.YtobfhidajcnfdaaDoor
