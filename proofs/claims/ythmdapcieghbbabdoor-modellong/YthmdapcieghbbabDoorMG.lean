/-
  Tables: what is wrong with a row (wrong), with the first row that is wrong (wrongRow).
-/
import Derived.Test.YthmdapcieghbbabDoorMF
namespace Go.Proofs.YthmdapcieghbbabDoor
set_option linter.unusedVariables false
set_option maxRecDepth 20000
open Go.RowKit

/-- A note by its number. -/
def noteS : Nat → ByteArray
  | 0 => ⟨#[]⟩ | 1 => ⟨#[114, 111, 119]⟩ | 2 => ⟨#[104, 97, 110, 103, 117, 108]⟩ | 3 => ⟨#[116, 97, 114, 103, 101, 116]⟩ | 4 => ⟨#[102, 117, 108, 108]⟩ | _ => ⟨#[112, 97, 105, 114]⟩
def noteV (n : Nat) : Value := .string (noteS n)

theorem wrong_ways (r : Rw) (above : Int) :
    (noneB r.code = true ∧ wrongC r above = 1) ∨
    (noneB r.code = false ∧ r.code ≤ above ∧ wrongC r above = 1) ∨
    (noneB r.code = false ∧ ¬ r.code ≤ above ∧ r.cls < 0 ∧ wrongC r above = 1) ∨
    (noneB r.code = false ∧ ¬ r.code ≤ above ∧ ¬ r.cls < 0 ∧ r.cls > 254 ∧ wrongC r above = 1) ∨
    (noneB r.code = false ∧ ¬ r.code ≤ above ∧ ¬ r.cls < 0 ∧ ¬ r.cls > 254 ∧ r.map.length > 2 ∧ wrongC r above = 1) ∨
    (noneB r.code = false ∧ ¬ r.code ≤ above ∧ ¬ r.cls < 0 ∧ ¬ r.cls > 254 ∧ ¬ r.map.length > 2 ∧ hangB r.code = true ∧ wrongC r above = 2) ∨
    (noneB r.code = false ∧ ¬ r.code ≤ above ∧ ¬ r.cls < 0 ∧ ¬ r.cls > 254 ∧ ¬ r.map.length > 2 ∧ hangB r.code = false ∧ r.map.any hangB = true ∧ wrongC r above = 2) ∨
    (noneB r.code = false ∧ ¬ r.code ≤ above ∧ ¬ r.cls < 0 ∧ ¬ r.cls > 254 ∧ ¬ r.map.length > 2 ∧ hangB r.code = false ∧ r.map.any hangB = false ∧ r.map.any noneB = true ∧ wrongC r above = 3) ∨
    (noneB r.code = false ∧ ¬ r.code ≤ above ∧ ¬ r.cls < 0 ∧ ¬ r.cls > 254 ∧ ¬ r.map.length > 2 ∧ hangB r.code = false ∧ r.map.any hangB = false ∧ r.map.any noneB = false ∧ wrongC r above = 0) := by
  unfold wrongC
  cases h1 : noneB r.code
  · by_cases h2 : r.code ≤ above
    · simp [h2]
    · by_cases h3 : r.cls < 0
      · simp [h2, h3]
      · by_cases h4 : r.cls > 254
        · simp [h2, h3, h4]
        · by_cases h5 : r.map.length > 2
          · simp [h2, h3, h4, h5]
          · cases h6 : hangB r.code
            · cases h7 : r.map.any hangB
              · cases h8 : r.map.any noneB <;> simp [h2, h3, h4, h5]
              · simp [h2, h3, h4, h5]
            · simp [h2, h3, h4, h5]
  · simp

theorem is_noneB {c : Int} {v : Bool} (h : noneB c = v) (w : World) : Calls Tryd.prog 23 #[.int .i32 c] w (RetV (.bool (!v)) w) := by
  have := is_any c w
  have e : isI c = !v := by unfold noneB at h; rw [← h]; simp
  rwa [e] at this
theorem hang_val {c : Int} {v : Bool} (h : hangB c = v) (w : World) (hl : -2147483648 ≤ c) (hc : c ≤ 2147483647) : Calls Tryd.prog 41 #[.int .i32 c] w (RetV (.bool v) w) := by
  subst h
  exact isHangul_any c w hl hc

/-- Numbers as characters are asked by. -/
def In32 (c : Int) : Prop := -2147483648 ≤ c ∧ c ≤ 2147483647
/-- A row such as the program may hold. -/
structure RowOk (r : Rw) : Prop where
  code : In32 r.code
  map : ∀ x ∈ r.map, In32 x

set_option maxHeartbeats 4000000 in
theorem wrong_any (r : Rw) (above : Int) (w : World) (hm : MapAt w r) (ho : RowOk r) : Calls Tryd.prog 25 #[r.val, .int .i32 above] w (RetV (noteV (wrongC r above)) w) := by
  have hW := wrong_ways r above
  obtain ⟨hc1, hc2⟩ := ho.code
  have hX := Blk.new w 45 #[.int .i32 r.code, .int .i64 r.cls, r.slice]
  have bW := below_new w (.cells #[.int .i32 r.code, .int .i64 r.cls, r.slice] 45)
  have HH0 : ∀ W, Below (w.alloc (.cells #[.int .i32 r.code, .int .i64 r.cls, r.slice] 45)).heap.size (w.alloc (.cells #[.int .i32 r.code, .int .i64 r.cls, r.slice] 45)) W → Calls Tryd.prog 42 #[.slice r.at_ r.map.length r.cap, .func (.func 41) #[] #[]] W (RetV (.bool (r.map.any hangB)) W) := fun W hb => contains_41 _ _ _ W (hm.below (below_step bW hb)).row hm.len ho.map
  have HN0 : ∀ W, Below (w.alloc (.cells #[.int .i32 r.code, .int .i64 r.cls, r.slice] 45)).heap.size (w.alloc (.cells #[.int .i32 r.code, .int .i64 r.cls, r.slice] 45)) W → Calls Tryd.prog 42 #[.slice r.at_ r.map.length r.cap, .func (.func 43) #[] #[]] W (RetV (.bool (r.map.any noneB)) W) := fun W hb => contains_43 _ _ _ W (hm.below (below_step bW hb)).row hm.len ho.map
  have HZ0 : ∀ W, Below (w.alloc (.cells #[.int .i32 r.code, .int .i64 r.cls, r.slice] 45)).heap.size (w.alloc (.cells #[.int .i32 r.code, .int .i64 r.cls, r.slice] 45)) W → W.cell? ⟨w.heap.size, 0, none⟩ = some (.int .i32 r.code) ∧ W.cell? ⟨w.heap.size, 1, none⟩ = some (.int .i64 r.cls) ∧ W.cell? ⟨w.heap.size, 2, none⟩ = some r.slice := fun W hb => (hX.on hb).cells3
  unfold Rw.val
  unfold Rw.slice at *
  clear hm ho
  generalize r.map.any hangB = p1 at *
  generalize r.map.any noneB = p2 at *
  generalize wrongC r above = res at *
  obtain ⟨n1, hn1⟩ : ∃ n1, noneB r.code = n1 := ⟨_, rfl⟩
  obtain ⟨n2, hn2⟩ : ∃ n2, hangB r.code = n2 := ⟨_, rfl⟩
  have HI0 := fun W => is_noneB hn1 W
  have HG0 := fun W => hang_val hn2 W hc1 hc2
  rw [hn1, hn2] at hW
  clear hn1 hn2
  generalize r.code = rc at *
  generalize r.cls = rk at *
  generalize r.at_ = ra at *
  generalize r.map.length = rn at *
  generalize r.cap = rq at *
  have HI := Lib.hid HI0
  have HG := Lib.hid HG0
  have HH := Lib.hid HH0
  have HN := Lib.hid HN0
  clear HI0 HG0 HH0 HN0
  have HZ := Lib.hid HZ0
  clear HZ0
  obtain ⟨z0, z1, z2⟩ := hX.cells3
  rcases hW with ⟨rfl, rfl⟩ | ⟨rfl, h2, rfl⟩ | ⟨rfl, h2, h3, rfl⟩ | ⟨rfl, h2, h3, h4, rfl⟩ | ⟨rfl, h2, h3, h4, h5, rfl⟩ | ⟨rfl, h2, h3, h4, h5, rfl, rfl⟩ | ⟨rfl, h2, h3, h4, h5, rfl, rfl, rfl⟩ | ⟨rfl, h2, h3, h4, h5, rfl, rfl, rfl, rfl⟩ | ⟨rfl, h2, h3, h4, h5, rfl, rfl, rfl, rfl⟩
  all_goals
    go_enter Tryd.func25, Tryd.ntmps25
    go_wp2_with fail
    generalize w.alloc (.cells #[.int .i32 rc, .int .i64 rk, .slice ra rn rq] 45) = V at *
    refine (HI.out _).mono ?_
    rintro e w1 ⟨rfl, y1⟩
    clear z0 z1 z2 HI hX
    obtain ⟨z0, z1, z2⟩ := HZ.out _ y1
    go_wp2_with (first
      | ((with_reducible refine (HG.out _).mono ?_); rintro e w2 ⟨rfl, y2⟩; have c2 := below_step y1 y2; obtain ⟨_, _, _⟩ := HZ.out _ c2)
      | ((with_reducible refine (HH.out _ (by assumption)).mono ?_); rintro e w3 ⟨rfl, y3⟩; have c3 := below_step (w := V) (by assumption) y3; obtain ⟨_, _, _⟩ := HZ.out _ c3)
      | ((with_reducible refine (HN.out _ (by assumption)).mono ?_); rintro e w3 ⟨rfl, y3⟩; have c3 := below_step (w := V) (by assumption) y3; obtain ⟨_, _, _⟩ := HZ.out _ c3))
    go_ret
    exact ⟨rfl, below_step bW (by assumption)⟩
end Go.Proofs.YthmdapcieghbbabDoor
