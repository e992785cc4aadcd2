import Derived.Test.YtiohpcnnpmnjhaaRefLife5
namespace Go.Proofs.Ytiohpcnnpmnjhaa
open Go.RowKit
set_option linter.unusedVariables false

theorem minX_sh (dx dy : Int) : ∀ (C : List Cel) (x : Int), minX (x + dx) (C.map (sh dx dy)) = minX x C + dx
  | [], x => rfl
  | c :: r, x => by
    have h := minX_sh dx dy r (min x c.1)
    unfold minX at *
    simp only [List.map_cons, List.foldl_cons, sh]
    rw [show min (x + dx) (c.1 + dx) = min x c.1 + dx by omega]
    exact h
theorem cornP_sh (dx dy : Int) (c : Cel) (r : List Cel) : cornP ((c :: r).map (sh dx dy)) = ((cornP (c :: r)).1 + dx, (cornP (c :: r)).2 + dy) := by
  obtain ⟨x, y⟩ := c
  have h := minX_sh dx dy ((x, y) :: r) x
  simp only [List.map_cons, sh] at h ⊢
  simp only [cornP]
  exact Prod.ext h rfl
theorem way_first_d {a b : Cel} {A B : List Cel} (h : wayB (a :: A) (b :: B) = true) : wayD (a :: A) (b :: B) = (b.1 - a.1, b.2 - a.2) := by
  have h1 := of_decide_eq_true h
  rw [List.map_cons] at h1
  have h2 := (List.cons.inj h1).1
  have h3 := congrArg Prod.fst h2
  have h4 := congrArg Prod.snd h2
  simp only [sh] at h3 h4
  refine Prod.ext ?_ ?_ <;> simp only <;> omega
/-- For lists in order the first cells tell the way. -/
theorem way_first {a b : Cel} {A B : List Cel} : wayB (a :: A) (b :: B) = decide ((a :: A).map (sh (b.1 - a.1) (b.2 - a.2)) = b :: B) := by
  unfold wayB
  refine decide_eq_decide.2 ⟨fun h => ?_, fun h => ?_⟩
  · have e := way_first_d (decide_eq_true h)
    rw [e] at h
    exact h
  · have hc := cornP_sh (b.1 - a.1) (b.2 - a.2) a A
    rw [h] at hc
    have hw : wayD (a :: A) (b :: B) = (b.1 - a.1, b.2 - a.2) := by
      unfold wayD
      rw [hc]
      refine Prod.ext ?_ ?_ <;> simp only <;> omega
    rw [hw]; exact h
theorem way_nil_l {b : Cel} {B : List Cel} : wayB [] (b :: B) = false := by simp [wayB]
theorem way_nil_r {a : Cel} {A : List Cel} : wayB (a :: A) [] = false := by simp [wayB]
theorem way_nil : wayB [] [] = true ∧ wayD [] [] = (0, 0) := by decide
theorem way_length {A B : List Cel} (h : ¬ A.length = B.length) : wayB A B = false := by
  unfold wayB
  refine decide_eq_false fun e => h ?_
  rw [← e, List.length_map]

end Go.Proofs.Ytiohpcnnpmnjhaa
