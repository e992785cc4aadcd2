import Derived.Test.YtkbhmncfncaanaaDoorOut
import Derived.Laws.Rows
namespace Go.Proofs.YtkbhmncfncaanaaDoor
open Go.RowKit
set_option linter.unusedVariables false

/-- The longest spans of cells that are given in order. -/
def segs : List Cel → List Span
  | [] => []
  | (x, y) :: r =>
    match segs r with
    | [] => [(x, y, 1)]
    | (x', y', n) :: q => if x' = x + 1 ∧ y' = y then (x, y, n + 1) :: q else (x, y, 1) :: (x', y', n) :: q

theorem segs_head : ∀ (l : List Cel) (x y : Int), l[0]? = some (x, y) → ∃ n q, segs l = (x, y, n) :: q
  | [], x, y, h => by simp at h
  | (a, b) :: r, x, y, h => by
    simp at h
    obtain ⟨rfl, rfl⟩ := h
    unfold segs
    split
    · exact ⟨_, _, rfl⟩
    · split
      · exact ⟨_, _, rfl⟩
      · exact ⟨_, _, rfl⟩

/-- A run from the left: as far as the cells go on, and no farther. -/
theorem segs_run : ∀ (n : Nat) (l : List Cel) (x y : Int), (∀ t : Nat, t < n + 1 → l[t]? = some (x + (t : Int), y)) → l[n + 1]? ≠ some (x + ((n + 1 : Nat) : Int), y) → segs l = (x, y, ((n + 1 : Nat) : Int)) :: segs (l.drop (n + 1))
  | n, [], x, y, h, _ => by have := h 0 (by omega); simp at this
  | 0, (a, b) :: r, x, y, h, h2 => by
    have h0 := h 0 (by omega)
    simp at h0
    obtain ⟨rfl, rfl⟩ := h0
    rw [segs]
    simp only [List.drop_succ_cons, List.drop_zero]
    cases r with
    | nil => simp [segs]
    | cons c r =>
      obtain ⟨x', y'⟩ := c
      obtain ⟨m, q, hq⟩ := segs_head ((x', y') :: r) x' y' (by simp)
      rw [hq]
      simp only
      rw [if_neg]
      · rfl
      · rintro ⟨rfl, rfl⟩
        exact h2 (by simp)
  | n + 1, (a, b) :: r, x, y, h, h2 => by
    have h0 := h 0 (by omega)
    simp at h0
    obtain ⟨rfl, rfl⟩ := h0
    have hr := segs_run n r (a + 1) b (fun t ht => by
      have := h (t + 1) (by omega)
      simp at this
      rw [this]
      simp; omega) (by
      intro e
      apply h2
      simp
      simp at e
      rw [e]
      simp; omega)
    rw [segs, hr]
    simp only
    rw [if_pos ⟨trivial, trivial⟩]
    simp

set_option maxHeartbeats 800000 in
theorem behind_any (x y n : Int) (w : World) (h1 : -4000000000000000000 ≤ x) (h2 : x ≤ 4000000000000000000) (h3 : 0 ≤ n) (h4 : n ≤ 100000000) :
    Calls Tryd.prog 22 #[.agg #[.int .i64 x, .int .i64 y, .int .i64 n]] w fun e w' => e = .returned (.agg #[.int .i64 (x + n), .int .i64 y]) ∧ w' = (w.alloc (.cells #[.int .i64 x, .int .i64 y, .int .i64 n] 61)).alloc (.cells #[.int .i64 (x + n), .int .i64 y] 53) := by
  go_enter Tryd.func22, Tryd.ntmps22
  go_wp2
  exact bodyPost_ret (v := .agg #[.int .i64 (x + n), .int .i64 y]) (by simp [results, Tryd.results22, go_sem]) rfl ⟨rfl, rfl⟩

theorem flatC_get : ∀ (C : List Cel) (k : Nat) (c : Cel), C[k]? = some c → (flatC C)[k * 2]? = some (.int .i64 c.1) ∧ (flatC C)[k * 2 + 1]? = some (.int .i64 c.2)
  | [], k, s, h => by simp at h
  | (x, y) :: r, 0, s, h => by simp at h; subst h; simp [flatC]
  | (x, y) :: r, k + 1, s, h => by
    have := flatC_get r k s (by simpa using h)
    simpa [flatC, show (k + 1) * 2 = k * 2 + 1 + 1 by omega] using this

/-- The cells lie in block g. -/
structure CellsAt (w : World) (g : Nat) (C : List Cel) : Prop where
  at_ : ∀ j u, (flatC C)[j]? = some u → w.cell? ⟨g, j, none⟩ = some u
theorem CellsAt.below {w w' : World} {g B : Nat} {C : List Cel} (h : CellsAt w g C) (hb : Below B w w') (hg : g < B) : CellsAt w' g C :=
  ⟨fun j u hu => (hb.cell (p := ⟨g, j, none⟩) hg).trans (h.at_ j u hu)⟩
theorem CellsAt.get {w : World} {g : Nat} {C : List Cel} (h : CellsAt w g C) (k : Nat) (c : Cel) (hs : C[k]? = some c) :
    w.cell? ⟨g, k * 2, none⟩ = some (.int .i64 c.1) ∧ w.cell? ⟨g, k * 2 + 1, none⟩ = some (.int .i64 c.2) := by
  obtain ⟨h1, h2⟩ := flatC_get C k c hs
  exact ⟨h.at_ _ _ h1, h.at_ _ _ h2⟩
theorem cells_cases {w : World} {B : Nat} {t : TypeId} {v : Value} {C : List Cel} (h : w.ownsRow B t 2 v C.length (flatC C)) :
    (v = .slice none 0 0 ∧ C = []) ∨ ∃ g cap, v = .slice (some ⟨g, 0, none⟩) C.length cap ∧ CellsAt w g C ∧ g < w.heap.size := by
  rcases h.2 with ⟨h1, h2⟩ | ⟨g, cap, cur, rfl, hg, hh, hn, hc, hz, ht⟩
  · exact .inl ⟨h1, List.eq_nil_of_length_eq_zero h2⟩
  · refine .inr ⟨g, cap, rfl, ⟨fun j u hu => ?_⟩, (Array.getElem?_eq_some_iff.1 hh).1⟩
    rw [← ht, List.getElem?_take] at hu
    split at hu
    · simpa [World.cell?, hh] using hu
    · cases hu

/-- The least x (from x on). -/
def minX (x : Int) (C : List Cel) : Int := C.foldl (fun m c => min m c.1) x
/-- The program's corner: the least x, and the first y. -/
def cornP : List Cel → Cel
  | [] => (0, 0)
  | (x, y) :: r => (minX x ((x, y) :: r), y)
theorem minX_snoc (x : Int) (C : List Cel) (c : Cel) : minX x (C ++ [c]) = min (minX x C) c.1 := by simp [minX]

end Go.Proofs.YtkbhmncfncaanaaDoor
