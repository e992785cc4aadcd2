import Derived.Test.YtiohpcnnpmnjhaaGreatDoorBlk
import Derived.Laws.AppendOwn
import Derived.Laws.Rows
import Derived.OwnWalk
import Derived.Maps.AppendAt
namespace Go.Proofs.YtiohpcnnpmnjhaaGreatDoor
open Go.RowKit
set_option linter.unusedVariables false

/-- A cell: x, y. -/
abbrev Cel := Int × Int
/-- Cells as the cells of a row. -/
def flatC : List Cel → List Value
  | [] => []
  | (x, y) :: r => .int .i64 x :: .int .i64 y :: flatC r
theorem flatC_append (a b : List Cel) : flatC (a ++ b) = flatC a ++ flatC b := by
  induction a with
  | nil => rfl
  | cons h t ih => obtain ⟨x, y⟩ := h; simp [flatC, ih]
theorem flatC_length (a : List Cel) : (flatC a).length = a.length * 2 := by
  induction a with
  | nil => rfl
  | cons h t ih => obtain ⟨x, y⟩ := h; simp [flatC, ih]; omega

/-- A row of another kind is not touched. -/
theorem other_kept {w w1 : World} {B n m : Nat} {e t : TypeId} {v : Value} {xs : List Value} {g : Nat} {cs : Array Value} (own : w.ownsRow B e m v n xs) (hg : w.grownBy w1 v.ownBlock) (hc : w.heap[g]? = some (.cells cs t (0, 0))) (ht : t ≠ e) : w1.heap[g]? = some (.cells cs t (0, 0)) := by
  rw [hg.block g (Array.getElem?_eq_some_iff.1 hc).1 (fun h => ?_)]
  · exact hc
  · rcases own.2 with ⟨rfl, _⟩ | ⟨g', cap, cur, rfl, _, hh, _⟩
    · cases h
    · simp [Value.ownBlock] at h
      subst h
      rw [hh] at hc
      cases hc
      exact ht rfl

theorem flatC_get : ∀ (C : List Cel) (k : Nat) (c : Cel), C[k]? = some c → (flatC C)[k * 2]? = some (.int .i64 c.1) ∧ (flatC C)[k * 2 + 1]? = some (.int .i64 c.2)
  | [], k, s, h => by simp at h
  | (x, y) :: r, 0, s, h => by simp at h; subst h; simp [flatC]
  | (x, y) :: r, k + 1, s, h => by
    have := flatC_get r k s (by simpa using h)
    simpa [flatC, show (k + 1) * 2 = k * 2 + 1 + 1 by omega] using this

/-- The cells lie in block g. -/
structure CellsAt (w : World) (g : Nat) (C : List Cel) : Prop where
  at_ : ∀ j u, (flatC C)[j]? = some u → w.cell? ⟨g, j, none⟩ = some u
theorem CellsAt.below {w w' : World} {g B : Nat} {C : List Cel} (h : CellsAt w g C) (hb : Below B w w') (hg : g < B) : CellsAt w' g C :=
  ⟨fun j u hu => (hb.cell (p := ⟨g, j, none⟩) hg).trans (h.at_ j u hu)⟩
theorem CellsAt.get {w : World} {g : Nat} {C : List Cel} (h : CellsAt w g C) (k : Nat) (c : Cel) (hs : C[k]? = some c) :
    w.cell? ⟨g, k * 2, none⟩ = some (.int .i64 c.1) ∧ w.cell? ⟨g, k * 2 + 1, none⟩ = some (.int .i64 c.2) := by
  obtain ⟨h1, h2⟩ := flatC_get C k c hs
  exact ⟨h.at_ _ _ h1, h.at_ _ _ h2⟩
theorem cells_cases {w : World} {B : Nat} {t : TypeId} {v : Value} {C : List Cel} (h : w.ownsRow B t 2 v C.length (flatC C)) :
    (v = .slice none 0 0 ∧ C = []) ∨ ∃ g cap, v = .slice (some ⟨g, 0, none⟩) C.length cap ∧ CellsAt w g C ∧ g < w.heap.size := by
  rcases h.2 with ⟨h1, h2⟩ | ⟨g, cap, cur, rfl, hg, hh, hn, hc, hz, ht⟩
  · exact .inl ⟨h1, List.eq_nil_of_length_eq_zero h2⟩
  · refine .inr ⟨g, cap, rfl, ⟨fun j u hu => ?_⟩, (Array.getElem?_eq_some_iff.1 hh).1⟩
    rw [← ht, List.getElem?_take] at hu
    split at hu
    · simpa [World.cell?, hh] using hu
    · cases hu


/-- By y, then by x. -/
def before (a b : Cel) : Prop := a.2 < b.2 ∨ (a.2 = b.2 ∧ a.1 < b.1)
instance (a b : Cel) : Decidable (before a b) := inferInstanceAs (Decidable (_ ∨ _))
def Asc (C : List Cel) : Prop := C.Pairwise before
theorem row_slice {w : World} {B n m : Nat} {e : TypeId} {v : Value} {xs : List Value} (own : w.ownsRow B e m v n xs) : ∃ ad cp, v = .slice ad n cp := by
  rcases own.2 with ⟨rfl, h0⟩ | ⟨g, cap, _, rfl, _⟩
  · subst h0; exact ⟨_, _, rfl⟩
  · exact ⟨_, _, rfl⟩

/-- The least x (from x on). -/
def minX (x : Int) (C : List Cel) : Int := C.foldl (fun m c => min m c.1) x
/-- The program's corner: the least x, and the first y. -/
def cornP : List Cel → Cel
  | [] => (0, 0)
  | (x, y) :: r => (minX x ((x, y) :: r), y)
theorem minX_snoc (x : Int) (C : List Cel) (c : Cel) : minX x (C ++ [c]) = min (minX x C) c.1 := by simp [minX]

/-- Moved. -/
def sh (dx dy : Int) (c : Cel) : Cel := (c.1 + dx, c.2 + dy)
theorem sh_zero : sh 0 0 = id := by funext c; simp [sh]

/-- No number runs over. -/
def Fits (dx dy : Int) (C : List Cel) : Prop := ∀ c ∈ C, -9223372036854775808 ≤ c.1 + dx ∧ c.1 + dx ≤ 9223372036854775807 ∧ -9223372036854775808 ≤ c.2 + dy ∧ c.2 + dy ≤ 9223372036854775807

end Go.Proofs.YtiohpcnnpmnjhaaGreatDoor
