/-
  Contracts: Wrap, the laws' fixed fact, Causes, and the document's Causes.
-/
import Derived.Test.YtpokpkocinhbfabDoorD
namespace Go.Proofs.YtpokpkocinhbfabDoor
set_option linter.unusedVariables false
set_option maxRecDepth 20000
open Go.RowKit Go.Extern.Stop Go.Stop Go.Extern

theorem wrap_nil (s : ByteArray) (w : World) : Calls Tryd.prog 22 #[.nilIface, .string s] w fun e w' => e = .returned .nilIface ∧ w = w' := by
  go_enter Tryd.func22, Tryd.ntmps22
  go_wp2
  go_ret
  exact ⟨rfl, rfl⟩

/-- A wrap of a chain. -/
def wrapped (s : ByteArray) (l : List Lk) : List Lk := { code := codeOf l, line := 0, note := s } :: l

set_option maxHeartbeats 1000000 in
theorem wrap_any (v : Value) (x : Lk) (r : List Lk) (s : ByteArray) (w : World) (he : Env w) (h : Chn w v (x :: r)) :
    Calls Tryd.prog 22 #[v, .string s] w (RetC (wrapped s (x :: r)) w) := by
  obtain ⟨g, c, rfl, hk, hr⟩ := h
  go_enter Tryd.func22, Tryd.ntmps22
  go_wp2_with fail
  refine (code_fault g _ _ _ _ w he.1 hk).mono ?_
  rintro e w1 ⟨rfl, hb⟩
  go_wp2
  go_ret
  refine ⟨_, rfl, ⟨w1.heap.size, _, rfl, Blk.new w1 38 _, ?_⟩, bel_new hb _⟩
  exact Chn.alloc (l := x :: r) ⟨g, c, rfl, hk.on hb, hr.kept hb⟩ _

theorem itoa_one {n : Nat} (h : n < 10) : Lib.itoa n = [UInt8.ofNat (48 + n)] := by
  rw [Lib.itoa, if_neg (by omega)]
  exact Lib.decDigits_one h

theorem awake_text : textOf [{ code := 3, line := 0, note := ⟨#[100, 97, 116, 97]⟩ }, { code := 3, line := 7, note := ⟨#[102, 105, 101, 108, 100]⟩ }] = [100, 97, 116, 97, 58, 32, 102, 105, 101, 108, 100, 58, 32, 108, 105, 110, 101, 32, 55, 58, 32, 99, 111, 100, 101, 32, 51] := by
  have h7 : Lib.itoa 7 = [55] := itoa_one (n := 7) (by decide)
  have h3 : Lib.itoa 3 = [51] := itoa_one (n := 3) (by decide)
  have hl : lineOf [{ code := 3, line := 0, note := ⟨#[100, 97, 116, 97]⟩ }, { code := 3, line := 7, note := ⟨#[102, 105, 101, 108, 100]⟩ }] = 7 := by simp [lineOf]
  have hc : codeOf [{ code := 3, line := 0, note := ⟨#[100, 97, 116, 97]⟩ }, { code := 3, line := 7, note := ⟨#[102, 105, 101, 108, 100]⟩ }] = 3 := rfl
  have hn : notesOf [{ code := 3, line := 0, note := ⟨#[100, 97, 116, 97]⟩ }, { code := 3, line := 7, note := ⟨#[102, 105, 101, 108, 100]⟩ }] = [⟨#[100, 97, 116, 97]⟩, ⟨#[102, 105, 101, 108, 100]⟩] := rfl
  rw [textOf, if_neg (by simp), hl, hc, hn, lineText, if_neg (by decide), codeText, h7, h3]
  rfl

set_option maxHeartbeats 1000000 in
theorem awake_any (w : World) (he : Env w) : Calls Tryd.prog 8 #[] w (RetV (.bool true) w) := by
  go_enter Tryd.func8, Tryd.ntmps8
  go_wp2_with fail
  refine (at_any 3 7 _ _ rfl).mono ?_
  rintro e w1 ⟨rfl, rfl⟩
  have hC : Chn (w.alloc (.cells #[.int .i64 3, .int .i64 7, .string ⟨#[102, 105, 101, 108, 100]⟩, .nilIface] 38)) (.iface 36 (.pointer (some ⟨w.heap.size, 0, none⟩))) [{ code := 3, line := 7, note := ⟨#[102, 105, 101, 108, 100]⟩ }] := ⟨_, _, rfl, Blk.new w 38 _, rfl⟩
  have he1 := he.kept (below_new w (.cells #[.int .i64 3, .int .i64 7, .string ⟨#[102, 105, 101, 108, 100]⟩, .nilIface] 38))
  go_wp2_with fail
  refine (wrap_any _ _ _ _ _ he1 hC).mono ?_
  rintro e w2 ⟨v, rfl, hC2, hb2⟩
  have b2 := below_step (below_new w _) hb2
  go_wp2_with fail
  refine (text_any v _ _ _ (he.kept b2) hC2 (by simp) ?_).mono ?_
  · intro y hy
    simp only [List.mem_cons, List.not_mem_nil, or_false] at hy
    rcases hy with rfl | rfl
    · refine ⟨by simp [codeOf], by simp, ?_⟩
      show 4 ≤ 1000; decide
    · refine ⟨by simp, by simp, ?_⟩
      show 5 ≤ 1000; decide
  rintro e w3 ⟨rfl, hb3⟩
  have HT := awake_text
  simp only [codeOf]
  rw [HT]
  clear HT
  go_wp2
  go_ret
  exact ⟨rfl, below_step b2 hb3⟩

/-- It answers the numbers zs, in a row of its own. -/
def RetI (e : TypeId) (zs : List Int) (w : World) (en : Ending) (w' : World) : Prop := ∃ u, en = .returned u ∧ w'.ownsRow w.heap.size e 1 u zs.length (zs.map fun z => .int .i64 z) ∧ Below w.heap.size w w'

def causesOf (c : Int) : List Int :=
  if c = 2 ∨ c = 3 ∨ c = 16 then [1, 2] else if c = 8 then [2] else if c = 4 ∨ c = 7 ∨ c = 9 ∨ c = 14 then [1, 3] else if c = 12 ∨ c = 13 then [1, 4] else if c = 1 ∨ c = 5 ∨ c = 6 ∨ c = 10 ∨ c = 11 ∨ c = 15 then [1] else []

theorem cause_info : (Tryd.prog.info? 61).map (fun i => (i.zero, i.size, i.bytes)) = some (some (.int .i64 0), 1, 8) := by kernel_rfl
theorem nil_own (w : World) (B : Nat) (e : TypeId) : w.ownsRow B e 1 (.slice none 0 0) 0 [] := ⟨by simp, .inl ⟨rfl, rfl⟩⟩
theorem cell_two_new (w : World) (t : TypeId) (x y : Value) : ∀ (j : Nat) (u : Value), [x, y][j]? = some u → (w.alloc (.cells #[x, y] t)).cell? ((⟨w.heap.size, 0, none⟩ : Addr).add j) = some u := by
  intro j u hu
  rw [add_off, Nat.zero_add, (Blk.new w t #[x, y]).cell]
  match j, hu with
  | 0, hu => simpa using hu
  | 1, hu => simpa using hu
  | j + 2, hu => simp at hu

theorem two_one (a b : Int) : ∀ u ∈ [Value.int .i64 a, Value.int .i64 b], u.oneCell' = true := by
  intro u hu
  simp at hu
  rcases hu with rfl | rfl <;> rfl
end Go.Proofs.YtpokpkocinhbfabDoor
