import Derived.Test.YtiohpcnnpmnjhaaDoorOut
import Derived.Laws.Rows
namespace Go.Proofs.YtiohpcnnpmnjhaaDoor
open Go.RowKit
set_option linter.unusedVariables false

/-- The longest spans of cells that are given in order. -/
def segs : List Cel → List Span
  | [] => []
  | (x, y) :: r =>
    match segs r with
    | [] => [(x, y, 1)]
    | (x', y', n) :: q => if x' = x + 1 ∧ y' = y then (x, y, n + 1) :: q else (x, y, 1) :: (x', y', n) :: q

theorem segs_head : ∀ (l : List Cel) (x y : Int), l[0]? = some (x, y) → ∃ n q, segs l = (x, y, n) :: q
  | [], x, y, h => by simp at h
  | (a, b) :: r, x, y, h => by
    simp at h
    obtain ⟨rfl, rfl⟩ := h
    unfold segs
    split
    · exact ⟨_, _, rfl⟩
    · split
      · exact ⟨_, _, rfl⟩
      · exact ⟨_, _, rfl⟩

/-- A run from the left: as far as the cells go on, and no farther. -/
theorem segs_run : ∀ (n : Nat) (l : List Cel) (x y : Int), (∀ t : Nat, t < n + 1 → l[t]? = some (x + (t : Int), y)) → l[n + 1]? ≠ some (x + ((n + 1 : Nat) : Int), y) → segs l = (x, y, ((n + 1 : Nat) : Int)) :: segs (l.drop (n + 1))
  | n, [], x, y, h, _ => by have := h 0 (by omega); simp at this
  | 0, (a, b) :: r, x, y, h, h2 => by
    have h0 := h 0 (by omega)
    simp at h0
    obtain ⟨rfl, rfl⟩ := h0
    rw [segs]
    simp only [List.drop_succ_cons, List.drop_zero]
    cases r with
    | nil => simp [segs]
    | cons c r =>
      obtain ⟨x', y'⟩ := c
      obtain ⟨m, q, hq⟩ := segs_head ((x', y') :: r) x' y' (by simp)
      rw [hq]
      simp only
      rw [if_neg]
      · rfl
      · rintro ⟨rfl, rfl⟩
        exact h2 (by simp)
  | n + 1, (a, b) :: r, x, y, h, h2 => by
    have h0 := h 0 (by omega)
    simp at h0
    obtain ⟨rfl, rfl⟩ := h0
    have hr := segs_run n r (a + 1) b (fun t ht => by
      have := h (t + 1) (by omega)
      simp at this
      rw [this]
      simp; omega) (by
      intro e
      apply h2
      simp
      simp at e
      rw [e]
      simp; omega)
    rw [segs, hr]
    simp only
    rw [if_pos ⟨trivial, trivial⟩]
    simp

set_option maxHeartbeats 800000 in
theorem behind_any (x y n : Int) (w : World) (h1 : -4000000000000000000 ≤ x) (h2 : x ≤ 4000000000000000000) (h3 : 0 ≤ n) (h4 : n ≤ 100000000) :
    Calls Tryd.prog 22 #[.agg #[.int .i64 x, .int .i64 y, .int .i64 n]] w fun e w' => e = .returned (.agg #[.int .i64 (x + n), .int .i64 y]) ∧ w' = (w.alloc (.cells #[.int .i64 x, .int .i64 y, .int .i64 n] 61)).alloc (.cells #[.int .i64 (x + n), .int .i64 y] 53) := by
  go_enter Tryd.func22, Tryd.ntmps22
  go_wp2
  exact bodyPost_ret (v := .agg #[.int .i64 (x + n), .int .i64 y]) (by simp [results, Tryd.results22, go_sem]) rfl ⟨rfl, rfl⟩

end Go.Proofs.YtiohpcnnpmnjhaaDoor
