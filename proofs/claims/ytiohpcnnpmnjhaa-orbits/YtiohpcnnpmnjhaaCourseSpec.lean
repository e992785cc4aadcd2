import Derived.Test.YtiohpcnnpmnjhaaRefLife5
namespace Go.Proofs.Ytiohpcnnpmnjhaa
open Go.RowKit
set_option linter.unusedVariables false

/-- Generation n. -/
def gen (f g : Nat → Bool) (C : List Cel) : Nat → List Cel
  | 0 => C
  | n + 1 => nextL f g (gen f g C n)
/-- The first earlier generation that generation t is, moved. -/
def cameB (f g : Nat → Bool) (C : List Cel) (t : Nat) : Option Nat := (List.range t).find? fun s => wayB (gen f g C s) (gen f g C t)
def stepC (t : Nat) (r : Int ⊕ (Nat × Nat)) : Option Nat → Int ⊕ (Nat × Nat)
  | some s => .inr (t, s)
  | none => r
/-- The course: an error, or the generation that comes back and the one that it is. -/
def courseF (f g : Nat → Bool) (C : List Cel) : Nat → Nat → Int ⊕ (Nat × Nat)
  | 0, _ => .inl 7
  | k + 1, t => if 100 < (gen f g C t).length then .inl 5 else stepC t (courseF f g C k (t + 1)) (cameB f g C t)
def course (f g : Nat → Bool) (C : List Cel) : Int ⊕ (Nat × Nat) := courseF f g C 201 0

theorem gen_asc {f g : Nat → Bool} {C : List Cel} (h : Asc C) : ∀ n, Asc (gen f g C n)
  | 0 => h
  | n + 1 => asc_nextL f g _

/-- All cells within these borders. -/
def InBox (a b c d : Int) (C : List Cel) : Prop := ∀ p ∈ C, a ≤ p.1 ∧ p.1 ≤ b ∧ c ≤ p.2 ∧ p.2 ≤ d
theorem next_box {f g : Nat → Bool} {C : List Cel} {a b c d : Int} (h : InBox a b c d C) : InBox (a - 1) (b + 1) (c - 1) (d + 1) (nextL f g C) := by
  intro p hp
  obtain ⟨⟨q, hq, hpq⟩, _⟩ := mem_nextL.1 hp
  have h1 := h q hq
  have h2 := mem_around.1 hpq
  omega
theorem gen_box {f g : Nat → Bool} {C : List Cel} {a b c d : Int} (h : InBox a b c d C) (n : Nat) : InBox (a - n) (b + n) (c - n) (d + n) (gen f g C n) := by
  induction n with
  | zero =>
    intro p hp
    have := h p hp
    simp only [Int.ofNat_zero]
    omega
  | succ n ih =>
    intro p hp
    have := next_box (f := f) (g := g) ih p hp
    omega

/-- How far apart generations may lie. -/
structure Roam (X Y : Int) (C : List Cel) : Prop where
  x1 : -2000000000000000000 ≤ X
  x2 : X ≤ 2000000000000000000
  y1 : -2000000000000000000 ≤ Y
  y2 : Y ≤ 2000000000000000000
  bx : InBox (X - 300) (X + 20000300) (Y - 300) (Y + 20000300) C
theorem Roam.mild {X Y : Int} {C : List Cel} (h : Roam X Y C) : Mild C := fun p hp => by
  have := h.bx p hp
  have := h.x1; have := h.x2; have := h.y1; have := h.y2
  omega
theorem minX_low {a : Int} : ∀ (C : List Cel) (x : Int), a ≤ x → (∀ c ∈ C, a ≤ c.1) → a ≤ minX x C
  | [], x, h, _ => by simpa [minX] using h
  | d :: r, x, h, hc => by
    have h1 := hc d (by simp)
    have := minX_low r (min x d.1) (by omega) (fun c h => hc c (by simp [h]))
    simpa [minX] using this
theorem minX_high : ∀ (C : List Cel) (x : Int), minX x C ≤ x
  | [], x => by simp [minX]
  | c :: r, x => by
    have := minX_high r (min x c.1)
    simp only [minX, List.foldl_cons] at this ⊢
    omega
theorem corn_box {a b c d : Int} {C : List Cel} (h : InBox a b c d C) : C = [] ∨ (a ≤ (cornP C).1 ∧ (cornP C).1 ≤ b ∧ c ≤ (cornP C).2 ∧ (cornP C).2 ≤ d) := by
  cases C with
  | nil => exact .inl rfl
  | cons p r =>
    obtain ⟨x, y⟩ := p
    have h1 := h (x, y) (by simp)
    simp only at h1
    refine .inr ⟨minX_low _ _ h1.1 (fun q hq => (h q hq).1), ?_, h1.2.2.1, h1.2.2.2⟩
    have := minX_high ((x, y) :: r) x
    show minX x ((x, y) :: r) ≤ b
    omega
theorem way_roam {X Y : Int} {A B : List Cel} (ha : Roam X Y A) (hb : Roam X Y B) : Fits (wayD A B).1 (wayD A B).2 A ∧ (-9000000000000000000 ≤ (wayD A B).1 ∧ (wayD A B).1 ≤ 9000000000000000000) ∧ (-9000000000000000000 ≤ (wayD A B).2 ∧ (wayD A B).2 ≤ 9000000000000000000) := by
  have x1 := ha.x1; have x2 := ha.x2; have y1 := ha.y1; have y2 := ha.y2
  have cA := corn_box ha.bx
  have cB := corn_box hb.bx
  have hz : ∀ C : List Cel, C = [] → (cornP C).1 = 0 ∧ (cornP C).2 = 0 := fun C h => by subst h; exact ⟨rfl, rfl⟩
  unfold wayD
  refine ⟨fun p hp => ?_, ?_, ?_⟩
  · have hp1 := ha.bx p hp
    simp only
    rcases cA with rfl | cA
    · simp at hp
    · rcases cB with rfl | cB
      · have := hz [] rfl; omega
      · omega
  · simp only
    rcases cA with hA | cA
    · have := hz A hA
      rcases cB with hB | cB
      · have := hz B hB; omega
      · omega
    · rcases cB with hB | cB
      · have := hz B hB; omega
      · omega
  · simp only
    rcases cA with hA | cA
    · have := hz A hA
      rcases cB with hB | cB
      · have := hz B hB; omega
      · omega
    · rcases cB with hB | cB
      · have := hz B hB; omega
      · omega

theorem gen_roam {f g : Nat → Bool} {C : List Cel} {X Y : Int} (hx : -2000000000000000000 ≤ X ∧ X ≤ 2000000000000000000) (hy : -2000000000000000000 ≤ Y ∧ Y ≤ 2000000000000000000) (h : InBox X (X + 20000000) Y (Y + 20000000) C) {n : Nat} (hn : n ≤ 300) : Roam X Y (gen f g C n) :=
  ⟨hx.1, hx.2, hy.1, hy.2, fun p hp => by have := gen_box (f := f) (g := g) h n p hp; omega⟩

theorem cameB_go {f g : Nat → Bool} {C : List Cel} {t : Nat} {s : Nat} (hs : s < t) (hn : ∀ r, r < s → wayB (gen f g C r) (gen f g C t) = false) (hw : wayB (gen f g C s) (gen f g C t) = true) : cameB f g C t = some s := by
  unfold cameB
  rw [List.find?_range_eq_some]
  exact ⟨hw, by simpa using hs, fun r hr => by simp [hn r hr]⟩
theorem cameB_none {f g : Nat → Bool} {C : List Cel} {t : Nat} (hn : ∀ r, r < t → wayB (gen f g C r) (gen f g C t) = false) : cameB f g C t = none := by
  unfold cameB
  rw [List.find?_eq_none]
  intro r hr
  rw [List.mem_range] at hr
  simp [hn r hr]

end Go.Proofs.Ytiohpcnnpmnjhaa
