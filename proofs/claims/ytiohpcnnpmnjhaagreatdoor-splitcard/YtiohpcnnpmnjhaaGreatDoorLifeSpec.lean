import Derived.Test.YtiohpcnnpmnjhaaGreatDoorCellRow
namespace Go.Proofs.YtiohpcnnpmnjhaaGreatDoor
open Go.RowKit
set_option linter.unusedVariables false

theorem before_trans {a b c : Cel} (h : before a b) (k : before b c) : before a c := by
  unfold before at *; omega
theorem before_irr (a : Cel) : ¬ before a a := by unfold before; omega
theorem before_tri (a b : Cel) : before a b ∨ a = b ∨ before b a := by
  obtain ⟨x, y⟩ := a
  obtain ⟨u, v⟩ := b
  unfold before
  simp only [Prod.mk.injEq]
  omega

/-- The ordered list, and the cell at its place. -/
def withC : List Cel → Cel → List Cel
  | [], c => [c]
  | d :: r, c => if before c d then c :: d :: r else if d = c then d :: r else d :: withC r c
theorem mem_withC {x : Cel} : ∀ {C : List Cel} {c : Cel}, x ∈ withC C c ↔ x = c ∨ x ∈ C
  | [], c => by simp [withC]
  | d :: r, c => by
    rw [withC]
    split
    · simp
    · split
      · rename_i h; subst h; simp
      · rw [List.mem_cons, mem_withC (C := r)]
        simp only [List.mem_cons]
        constructor
        · rintro (h | h | h) <;> simp [h]
        · rintro (h | h | h) <;> simp [h]
theorem asc_withC : ∀ {C : List Cel} {c : Cel}, Asc C → Asc (withC C c)
  | [], c, _ => by simp [withC, Asc]
  | d :: r, c, h => by
    obtain ⟨h1, h2⟩ := List.pairwise_cons.1 h
    rw [withC]
    split
    · rename_i hb
      refine List.pairwise_cons.2 ⟨fun x hx => ?_, h⟩
      rcases List.mem_cons.1 hx with rfl | hx
      · exact hb
      · exact before_trans hb (h1 x hx)
    · split
      · exact h
      · rename_i hb hd
        refine List.pairwise_cons.2 ⟨fun x hx => ?_, asc_withC h2⟩
        rcases mem_withC.1 hx with rfl | hx
        · rcases before_tri d x with k | k | k
          · exact k
          · exact absurd k hd
          · exact absurd k hb
        · exact h1 x hx
theorem len_withC : ∀ (C : List Cel) (c : Cel), (withC C c).length ≤ C.length + 1
  | [], c => by simp [withC]
  | d :: r, c => by
    have := len_withC r c
    rw [withC]
    split
    · simp
    · split <;> simp <;> omega

/-- Two ordered lists with the same cells are the same. -/
theorem asc_unique : ∀ {A B : List Cel}, Asc A → Asc B → (∀ c, c ∈ A ↔ c ∈ B) → A = B
  | [], [], _, _, _ => rfl
  | [], b :: B, _, _, h => by have := (h b).2 (by simp); simp at this
  | a :: A, [], _, _, h => by have := (h a).1 (by simp); simp at this
  | a :: A, b :: B, hA, hB, h => by
    obtain ⟨a1, a2⟩ := List.pairwise_cons.1 hA
    obtain ⟨b1, b2⟩ := List.pairwise_cons.1 hB
    have e : a = b := by
      rcases List.mem_cons.1 ((h a).1 (by simp)) with e | e
      · exact e
      · rcases List.mem_cons.1 ((h b).2 (by simp)) with e' | e'
        · exact e'.symm
        · exact absurd (before_trans (a1 b e') (b1 a e)) (before_irr a)
    subst e
    rw [asc_unique a2 b2 fun c => ?_]
    constructor
    · intro hc
      rcases List.mem_cons.1 ((h c).1 (by simp [hc])) with e | e
      · subst e; exact absurd (a1 c hc) (before_irr c)
      · exact e
    · intro hc
      rcases List.mem_cons.1 ((h c).2 (by simp [hc])) with e | e
      · subst e; exact absurd (b1 c hc) (before_irr c)
      · exact e

/-- Is d a neighbour of c? -/
def isNb (c d : Cel) : Bool := decide (-1 ≤ d.1 - c.1) && decide (d.1 - c.1 ≤ 1) && decide (-1 ≤ d.2 - c.2) && decide (d.2 - c.2 ≤ 1) && !decide (d = c)
/-- How many neighbours live. -/
def nbC (C : List Cel) (c : Cel) : Nat := C.countP (isNb c)
/-- A cell and those around it. -/
def around (d : Cel) : List Cel := (List.range 9).map fun k => (d.1 + ((k % 3 : Nat) : Int) - 1, d.2 + ((k / 3 : Nat) : Int) - 1)
theorem mem_around {c d : Cel} : c ∈ around d ↔ -1 ≤ c.1 - d.1 ∧ c.1 - d.1 ≤ 1 ∧ -1 ≤ c.2 - d.2 ∧ c.2 - d.2 ≤ 1 := by
  obtain ⟨x, y⟩ := c
  obtain ⟨u, v⟩ := d
  unfold around
  simp only [List.mem_map, List.mem_range, Prod.mk.injEq]
  constructor
  · rintro ⟨k, hk, h1, h2⟩
    omega
  · rintro ⟨h1, h2, h3, h4⟩
    refine ⟨((x - u + 1) + 3 * (y - v + 1)).toNat, by omega, by omega, by omega⟩

theorem nodup_le {α : Type} [DecidableEq α] : ∀ (L M : List α), L.Nodup → (∀ x ∈ L, x ∈ M) → L.length ≤ M.length
  | [], M, _, _ => by simp
  | x :: L, M, h, hs => by
    obtain ⟨h1, h2⟩ := List.nodup_cons.1 h
    have hx := hs x (by simp)
    have := nodup_le L (M.erase x) h2 fun y hy => (List.mem_erase_of_ne (by rintro rfl; exact h1 hy)).2 (hs y (by simp [hy]))
    rw [List.length_erase_of_mem hx] at this
    have hp := List.length_pos_of_mem hx
    simp only [List.length_cons]
    omega
theorem asc_nodup {C : List Cel} (h : Asc C) : C.Nodup := by
  refine List.Pairwise.imp (fun {a b} k e => ?_) h
  subst e; exact before_irr a k
theorem nbC_le {C : List Cel} (h : Asc C) (c : Cel) : nbC C c ≤ 8 := by
  unfold nbC
  rw [List.countP_eq_length_filter]
  have hn : (C.filter (isNb c)).Nodup := (asc_nodup h).filter _
  have := nodup_le (c :: C.filter (isNb c)) (around c) (List.nodup_cons.2 ⟨by simp [isNb], hn⟩) fun x hx => by
    rw [mem_around]
    rcases List.mem_cons.1 hx with rfl | hx
    · omega
    · have := (List.mem_filter.1 hx).2
      simp only [isNb, Bool.and_eq_true, decide_eq_true_eq] at this
      exact ⟨this.1.1.1.1, this.1.1.1.2, this.1.1.2, this.1.2⟩
  simp [around] at this
  omega

/-- Does the cell live in the next generation? -/
def livesC (f g : Nat → Bool) (C : List Cel) (c : Cel) : Bool := if c ∈ C then g (nbC C c) else decide (0 < nbC C c) && f (nbC C c)
/-- The next generation, as the reference makes it. -/
def addC (f g : Nat → Bool) (C : List Cel) (out : List Cel) (c : Cel) : List Cel := if livesC f g C c then withC out c else out
def nextL (f g : Nat → Bool) (C : List Cel) : List Cel := (C.flatMap around).foldl (addC f g C) []

theorem fold_mem (f g : Nat → Bool) (C : List Cel) : ∀ (l out : List Cel) (c : Cel), c ∈ l.foldl (addC f g C) out ↔ c ∈ out ∨ (c ∈ l ∧ livesC f g C c = true)
  | [], out, c => by simp
  | d :: l, out, c => by
    rw [List.foldl_cons, fold_mem f g C l]
    unfold addC
    by_cases h : livesC f g C d = true
    · rw [if_pos h, mem_withC]
      simp only [List.mem_cons]
      constructor
      · rintro ((rfl | h1) | h1)
        · exact .inr ⟨.inl rfl, h⟩
        · exact .inl h1
        · exact .inr ⟨.inr h1.1, h1.2⟩
      · rintro (h1 | ⟨rfl | h1, h2⟩)
        · exact .inl (.inr h1)
        · exact .inl (.inl rfl)
        · exact .inr ⟨h1, h2⟩
    · rw [if_neg h]
      simp only [List.mem_cons]
      constructor
      · rintro (h1 | h1)
        · exact .inl h1
        · exact .inr ⟨.inr h1.1, h1.2⟩
      · rintro (h1 | ⟨rfl | h1, h2⟩)
        · exact .inl h1
        · exact absurd h2 h
        · exact .inr ⟨h1, h2⟩
theorem fold_asc (f g : Nat → Bool) (C : List Cel) : ∀ (l out : List Cel), Asc out → Asc (l.foldl (addC f g C) out)
  | [], out, h => h
  | d :: l, out, h => by
    rw [List.foldl_cons]
    refine fold_asc f g C l _ ?_
    unfold addC
    split
    · exact asc_withC h
    · exact h
theorem fold_len (f g : Nat → Bool) (C : List Cel) : ∀ (l out : List Cel), (l.foldl (addC f g C) out).length ≤ out.length + l.length
  | [], out => by simp
  | d :: l, out => by
    rw [List.foldl_cons]
    have h1 := fold_len f g C l (addC f g C out d)
    have h2 : (addC f g C out d).length ≤ out.length + 1 := by
      unfold addC
      split
      · exact len_withC _ _
      · omega
    simp only [List.length_cons]
    omega

theorem mem_nextL {f g : Nat → Bool} {C : List Cel} {c : Cel} : c ∈ nextL f g C ↔ (∃ d ∈ C, c ∈ around d) ∧ livesC f g C c = true := by
  unfold nextL
  rw [fold_mem]
  simp [List.mem_flatMap]
theorem asc_nextL (f g : Nat → Bool) (C : List Cel) : Asc (nextL f g C) := fold_asc f g C _ [] (by simp [Asc])

end Go.Proofs.YtiohpcnnpmnjhaaGreatDoor
