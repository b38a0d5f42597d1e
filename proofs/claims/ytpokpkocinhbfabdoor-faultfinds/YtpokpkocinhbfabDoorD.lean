/-
  The contract of fault.Text.
-/
import Derived.Test.YtpokpkocinhbfabDoorC
import Derived.Lib.ItoaLen
namespace Go.Proofs.YtpokpkocinhbfabDoor
set_option linter.unusedVariables false
set_option maxRecDepth 20000
open Go.RowKit Go.Extern.Stop Go.Stop Go.Extern

def notesText : List ByteArray → List UInt8
  | [] => []
  | s :: r => s.data.toList ++ ([58, 32] ++ notesText r)
def lineText (n : Int) : List UInt8 := if n = 0 then [] else [108, 105, 110, 101, 32] ++ (Lib.itoa n ++ [58, 32])
def codeText (n : Int) : List UInt8 := [99, 111, 100, 101, 32] ++ Lib.itoa n
def textOf (l : List Lk) : List UInt8 := if l.length = 0 then [] else notesText (notesOf l) ++ (lineText (lineOf l) ++ codeText (codeOf l))

/-- A link whose parts fit. -/
def Lk.Fits (x : Lk) : Prop := (-9223372036854775808 ≤ x.code ∧ x.code ≤ 9223372036854775807) ∧ (-9223372036854775808 ≤ x.line ∧ x.line ≤ 9223372036854775807) ∧ x.note.size ≤ 1000

theorem notesText_snoc (ss : List ByteArray) (s : ByteArray) : notesText (ss ++ [s]) = notesText ss ++ (s.data.toList ++ [58, 32]) := by
  induction ss with
  | nil => simp [notesText]
  | cons y r ih => simp [notesText, ih]
theorem notesText_le {ss : List ByteArray} (h : ∀ s ∈ ss, s.size ≤ 1000) : (notesText ss).length ≤ 1002 * ss.length := by
  induction ss with
  | nil => simp [notesText]
  | cons y r ih =>
    have h1 : y.data.toList.length ≤ 1000 := by have := h y (by simp); simpa using this
    have h2 := ih (fun s hs => h s (by simp [hs]))
    simp only [notesText, List.length_append, List.length_cons, List.length_nil]
    omega
theorem notesOf_fits {l : List Lk} (h : ∀ x ∈ l, x.Fits) : ∀ s ∈ notesOf l, s.size ≤ 1000 := by
  induction l with
  | nil => simp [notesOf]
  | cons x r ih =>
    intro s hs
    have h1 := h x (by simp)
    have h2 := ih (fun y hy => h y (by simp [hy]))
    simp only [notesOf] at hs
    split at hs
    · exact h2 s hs
    · rcases List.mem_cons.1 hs with rfl | hs
      · exact h1.2.2
      · exact h2 s hs
theorem lineOf_fits {l : List Lk} (h : ∀ x ∈ l, x.Fits) : -9223372036854775808 ≤ lineOf l ∧ lineOf l ≤ 9223372036854775807 := by
  induction l with
  | nil => simp [lineOf]
  | cons x r ih =>
    have h1 := (h x (by simp)).2.1
    have h2 := ih (fun y hy => h y (by simp [hy]))
    simp only [lineOf]
    split <;> assumption
theorem codeOf_fits {l : List Lk} (h : ∀ x ∈ l, x.Fits) : -9223372036854775808 ≤ codeOf l ∧ codeOf l ≤ 9223372036854775807 := by
  cases l with
  | nil => simp [codeOf]
  | cons x r => exact (h x (by simp)).1

theorem cat_list (a b : ByteArray) : (a ++ b).data.toList = a.data.toList ++ b.data.toList := by simp [ByteArray.data_append]
theorem cat_size (a b : ByteArray) : (a ++ b).size = a.size + b.size := by simp
theorem str_size (l : List UInt8) : (⟨l.toArray⟩ : ByteArray).size = l.length := by show l.toArray.size = _; simp

theorem text_nil (w : World) : Calls Tryd.prog 18 #[.nilIface] w fun e w' => e = .returned (.string ⟨#[]⟩) ∧ w = w' := by
  go_enter Tryd.func18, Tryd.ntmps18
  go_wp2
  go_ret
  exact ⟨rfl, rfl⟩

/-- A Builder as it is made. -/
theorem Bld.new (w : World) : Bld w.heap.size w.heap.size [] (w.alloc (.cells #[.pointer none, .slice none 0 0] 68)) :=
  .inl ⟨Nat.le_refl _, _, heap_alloc_new w _, ⟨by simp [Lib.byteCells], .inl ⟨rfl, by simp [Lib.byteCells]⟩⟩, by simp [Value.ownBlock]⟩

set_option maxHeartbeats 4000000 in
theorem text_any (v : Value) (x : Lk) (r : List Lk) (w : World) (he : Env w) (h : Chn w v (x :: r)) (hl : (x :: r).length ≤ 1000) (hf : ∀ y ∈ x :: r, y.Fits) :
    Calls Tryd.prog 18 #[v] w (RetV (.string ⟨(textOf (x :: r)).toArray⟩) w) := by
  have hn1 := notesOf_fits hf
  have hn2 := notesOf_le (x :: r)
  have hlf := lineOf_fits hf
  have hcf := codeOf_fits hf
  have hT : textOf (x :: r) = notesText (notesOf (x :: r)) ++ (lineText (lineOf (x :: r)) ++ codeText (codeOf (x :: r))) := by simp [textOf]
  rw [hT]
  clear hT
  obtain ⟨g, c, rfl, hk, hr⟩ := h
  have hC : Chn w (.iface 36 (.pointer (some ⟨g, 0, none⟩))) (x :: r) := ⟨g, c, rfl, hk, hr⟩
  clear hk hr hf
  generalize hL : x :: r = l at *
  clear hL x r
  have hB0 := Bld.new w
  have hC1 := hC.alloc (.cells #[.pointer none, .slice none 0 0] 68)
  go_enter Tryd.func18, Tryd.ntmps18
  go_wp2_with fail
  refine (notes_any _ l _ hC1 hl).mono ?_
  rintro e w1 ⟨u, rfl, hrow, hb1⟩
  obtain ⟨ao, cap, rfl⟩ := own_form hrow
  have hB1 := hB0.kept hb1
  have bw1 : Below w.heap.size w w1 := below_step (below_new _ _) hb1
  have hs1 := hb1.size
  simp only [World.size_alloc] at hs1
  have hm : (notesOf l).length ≤ 1000 := by omega
  generalize notesOf l = ss at *
  clear hB0 hC1 hb1
  go_wp2
  rw [World.size_alloc] at hrow
  go_loopg [12] ss.length (fun n i wx => ∃ k : Nat, k + n = ss.length ∧ i = .int .i64 k ∧ wx.ownsRow (w.heap.size + 1) 9 1 (.slice ao ss.length cap) ss.length (strs ss) ∧ Bld w.heap.size w.heap.size (notesText (ss.take k)) wx ∧ Below w.heap.size w wx)
  case atStart => exact ⟨0, by omega, rfl, hrow, hB1, bw1⟩
  case round =>
    obtain ⟨k, hk, rfl, hrw, hB, hb⟩ := hrel
    clear hrow hB1 bw1
    have hbs := hb.size
    by_cases hlt : k < ss.length
    · obtain ⟨s, hs⟩ : ∃ s, ss[k]? = some s := ⟨_, List.getElem?_eq_getElem hlt⟩
      obtain ⟨g', cap', hv, hc⟩ := own_at hrw (strs_at hs)
      simp only [Value.slice.injEq] at hv
      obtain ⟨rfl, _, rfl⟩ := hv
      have hsm : s.size ≤ 1000 := hn1 s (List.mem_of_getElem? hs)
      have hgb : ∀ q, (Value.slice (some ⟨g', 0, none⟩) ss.length cap).ownBlock = some q → q ≠ w.heap.size := fun q hq => by
        have := (hrw.lt q hq).1
        omega
      have hle : (notesText (ss.take k)).length ≤ 1002 * 1000 := by
        have h1 := notesText_le (ss := ss.take k) (fun y hy => hn1 y (List.mem_of_mem_take hy))
        have h2 : (ss.take k).length ≤ 1000 := by rw [List.length_take]; omega
        omega
      have HT : Hid (notesText (ss.take (k + 1)) = notesText (ss.take k) ++ (s.data.toList ++ [58, 32])) := by
        have : ss.take (k + 1) = ss.take k ++ [s] := by
          rw [List.take_succ_eq_append_getElem hlt]
          rw [List.getElem?_eq_getElem hlt] at hs
          rw [Option.some.inj hs]
        rw [Hid, this, notesText_snoc]
      have HK := Lib.hid hk
      have hn1' := Lib.hid hn1
      clear hs hk hn1
      generalize notesText (ss.take k) = tx at *
      go_wp2_with fail
      refine (write_any _ _ tx s _ hB (by omega) hbs).mono ?_
      rintro e y1 ⟨rfl, hB1, hy1, ho1⟩
      have hbs1 := Nat.le_trans hbs hy1.size
      have hsl : s.data.toList.length ≤ 1000 := by simpa using hsm
      go_wp2_with fail
      refine (write_any _ _ (tx ++ s.data.toList) ⟨#[58, 32]⟩ _ hB1 (by rw [List.length_append]; show _ + 2 ≤ _; omega) hbs1).mono ?_
      rintro e y2 ⟨rfl, hB2, hy2, ho2⟩
      go_wp2
      go_roundg (ss.length - (k + 1))
      case measure => have := HK.out; omega
      case rel => exact ⟨k + 1, by omega, by go_num, OthersKept.row ho2 (OthersKept.row ho1 hrw hgb) hgb, by rw [HT.out, ← List.append_assoc]; exact hB2, (hb.trans hy1).trans hy2⟩
    · have hk0 : k = ss.length := by omega
      subst hk0
      rw [List.take_length] at hB
      have hle : (notesText ss).length ≤ 1002 * 1000 := by
        have h1 := notesText_le hn1
        omega
      have HN := Lib.hid hn1
      clear hn1 hk hrw
      generalize notesText ss = tx at *
      go_wp2_with fail
      refine (line_any _ l _ (hC.kept hb) hl).mono ?_
      rintro e w2 ⟨rfl, hb2⟩
      have bw2 := below_step hb hb2
      have hB2 := hB.kept hb2
      have hbs2 := bw2.size
      by_cases hz : lineOf l = 0
      · have hzl : lineText (lineOf l) = [] := by simp [lineText, hz]
        have HZ := Lib.hid hzl
        rw [hz]
        clear hz hzl
        go_wp2_with fail
        refine (code_any _ l _ (he.kept bw2).1 (hC.kept bw2)).mono ?_
        rintro e z1 ⟨rfl, hz1⟩
        have by1 := below_step bw2 hz1
        have hic := Lib.itoa_length_le _ hcf.1 hcf.2
        go_wp2_with fail
        refine (itoa_any _ _ (he.kept by1) hcf.1 hcf.2).mono ?_
        rintro e z2 ⟨rfl, hz2⟩
        have by2 := below_step by1 hz2
        have HBz := (hB2.kept hz1).kept hz2
        have hsz2 := by2.size
        generalize hI : Lib.itoa (codeOf l) = ic at *
        have HI := Lib.hid hI
        clear hI
        go_wp2_with fail
        refine (write_any _ _ tx _ _ HBz (by rw [cat_size]; have := str_size ic; show _ + (5 + _) ≤ _; omega) hsz2).mono ?_
        rintro e z3 ⟨rfl, HB3, hz3, _⟩
        rw [cat_list] at HB3
        have by3 := by2.trans hz3
        have hsz3 := by3.size
        go_wp2_with fail
        refine (Tryd.Builder_String_any _ _ _ _ HB3 hsz3).mono ?_
        rintro e z4 ⟨rfl, hz4⟩
        go_wp2
        go_ret
        refine ⟨?_, by3.trans hz4⟩
        rw [HZ.out, codeText, HI.out]; rfl
      · have hzl : lineText (lineOf l) = [108, 105, 110, 101, 32] ++ (Lib.itoa (lineOf l) ++ [58, 32]) := by rw [lineText, if_neg hz]
        have hz1 : (lineOf l != 0) = true := by simp [hz]
        have HZ := Lib.hid hzl
        have hil := Lib.itoa_length_le _ hlf.1 hlf.2
        have IT := Lib.hid (fun W hW => itoa_any (lineOf l) W hW hlf.1 hlf.2)
        clear hz hzl hlf
        generalize lineOf l = ln at *
        generalize Lib.itoa ln = li at *
        go_wp2_with fail
        refine (IT.out _ (he.kept bw2)).mono ?_
        rintro e w3 ⟨rfl, hb3⟩
        have bw3 := below_step bw2 hb3
        have hB3 := hB2.kept hb3
        have hbs3 := bw3.size
        go_wp2_with fail
        refine (write_any _ _ tx _ _ hB3 (by rw [cat_size, cat_size]; have := str_size li; show _ + (5 + _ + 2) ≤ _; omega) hbs3).mono ?_
        rintro e w4 ⟨rfl, hB4, hb4, _⟩
        rw [cat_list, cat_list] at hB4
        have bw4 := bw3.trans hb4
        have htl : (tx ++ (({ data := #[108, 105, 110, 101, 32] } : ByteArray).data.toList ++ ({ data := li.toArray } : ByteArray).data.toList ++ ({ data := #[58, 32] } : ByteArray).data.toList)).length ≤ 2000000 := by
          simp only [List.length_append]
          show _ + (5 + li.toArray.toList.length + 2) ≤ _
          have hli : li.toArray.toList.length = li.length := by simp
          omega
        generalize hTT : tx ++ (({ data := #[108, 105, 110, 101, 32] } : ByteArray).data.toList ++ ({ data := li.toArray } : ByteArray).data.toList ++ ({ data := #[58, 32] } : ByteArray).data.toList) = tt at *
        have HTT := Lib.hid hTT
        clear hTT
        go_wp2_with fail
        refine (code_any _ l _ (he.kept bw4).1 (hC.kept bw4)).mono ?_
        rintro e z1 ⟨rfl, hz1⟩
        have by1 := below_step bw4 hz1
        have hic := Lib.itoa_length_le _ hcf.1 hcf.2
        go_wp2_with fail
        refine (itoa_any _ _ (he.kept by1) hcf.1 hcf.2).mono ?_
        rintro e z2 ⟨rfl, hz2⟩
        have by2 := below_step by1 hz2
        have HBz := (hB4.kept hz1).kept hz2
        have hsz2 := by2.size
        generalize hI : Lib.itoa (codeOf l) = ic at *
        have HI := Lib.hid hI
        clear hI
        go_wp2_with fail
        refine (write_any _ _ tt _ _ HBz (by rw [cat_size]; have := str_size ic; show _ + (5 + _) ≤ _; omega) hsz2).mono ?_
        rintro e z3 ⟨rfl, HB3, hz3, _⟩
        rw [cat_list] at HB3
        have by3 := by2.trans hz3
        have hsz3 := by3.size
        go_wp2_with fail
        refine (Tryd.Builder_String_any _ _ _ _ HB3 hsz3).mono ?_
        rintro e z4 ⟨rfl, hz4⟩
        go_wp2
        go_ret
        refine ⟨?_, by3.trans hz4⟩
        rw [HZ.out, codeText, HI.out, ← HTT.out]; simp
end Go.Proofs.YtpokpkocinhbfabDoor
