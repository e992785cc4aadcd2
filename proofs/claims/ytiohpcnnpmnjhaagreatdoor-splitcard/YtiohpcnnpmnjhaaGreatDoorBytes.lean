import Derived.Test.YtiohpcnnpmnjhaaGreatDoorRows
import Derived.WalkKit
import Derived.WalkSpells
import Derived.WalkLawsBesides
namespace Go.Proofs.YtiohpcnnpmnjhaaGreatDoor
open Go.RowKit
set_option linter.unusedVariables false

/-- The byte at place i, 0 behind the end. -/
def pk (s : ByteArray) (i : Nat) : Int := if h : i < s.size then (s[i].toNat : Int) else 0

theorem pk_in {s : ByteArray} {i : Nat} (h : i < s.size) : pk s i = (s[i].toNat : Int) := by simp [pk, h]
theorem pk_out {s : ByteArray} {i : Nat} (h : ¬ i < s.size) : pk s i = 0 := by simp [pk, h]
theorem pk_bd (s : ByteArray) (i : Nat) : 0 ≤ pk s i ∧ pk s i ≤ 255 := by
  unfold pk; split
  · have := s[i].toNat_lt; omega
  · omega
theorem lt_of_pk {s : ByteArray} {i : Nat} (h : 0 < pk s i) : i < s.size := by
  by_cases hlt : i < s.size
  · exact hlt
  · have := pk_out hlt; omega

/-- A blank or a newline. -/
def isBl (c : Int) : Bool := c == 32 || c == 10
/-- A digit. -/
def isDg (c : Int) : Bool := decide (48 ≤ c) && decide (c ≤ 57)
/-- A run's letter. -/
def isLt (c : Int) : Bool := c == 98 || c == 111 || c == 36

theorem isBl_pos {c : Int} (h : isBl c = true) : 0 < c := by unfold isBl at h; simp at h; omega
theorem isDg_pos {c : Int} (h : isDg c = true) : 0 < c := by unfold isDg at h; simp at h; omega
theorem isLt_pos {c : Int} (h : isLt c = true) : 0 < c := by unfold isLt at h; simp at h; omega
theorem isDg_iff {c : Int} : isDg c = true ↔ 48 ≤ c ∧ c ≤ 57 := by unfold isDg; simp

/-- The first place from i on that has not p. -/
def skipF (p : Int → Bool) (s : ByteArray) : Nat → Nat → Nat
  | 0, i => i
  | f + 1, i => if p (pk s i) then skipF p s f (i + 1) else i
def skip (p : Int → Bool) (s : ByteArray) (i : Nat) : Nat := skipF p s (s.size - i) i

theorem skip_go {p : Int → Bool} {s : ByteArray} {i : Nat} (hi : i < s.size) (h : p (pk s i) = true) : skip p s i = skip p s (i + 1) := by
  unfold skip
  obtain ⟨f, hf⟩ : ∃ f, s.size - i = f + 1 := ⟨s.size - i - 1, by omega⟩
  rw [hf, show s.size - (i + 1) = f by omega, skipF, if_pos h]
theorem skip_stop {p : Int → Bool} {s : ByteArray} {i : Nat} (h : p (pk s i) = false) : skip p s i = i := by
  unfold skip
  cases hf : s.size - i with
  | zero => rfl
  | succ f => rw [skipF, if_neg (by rw [h]; exact Bool.false_ne_true)]
theorem skip_end {p : Int → Bool} {s : ByteArray} {i : Nat} (h : s.size ≤ i) : skip p s i = i := by
  unfold skip; rw [show s.size - i = 0 by omega]; rfl
theorem skipF_le (p : Int → Bool) (s : ByteArray) : ∀ (f i : Nat), i + f = s.size → i ≤ skipF p s f i ∧ skipF p s f i ≤ s.size := by
  intro f
  induction f with
  | zero => intro i h; simp [skipF]; omega
  | succ f ih =>
    intro i h
    unfold skipF
    split
    · have := ih (i + 1) (by omega); omega
    · omega
theorem skip_le (p : Int → Bool) (s : ByteArray) (i : Nat) (h : i ≤ s.size) : i ≤ skip p s i ∧ skip p s i ≤ s.size := skipF_le p s _ i (by omega)
theorem skip_ge (p : Int → Bool) (s : ByteArray) (i : Nat) : i ≤ skip p s i := by
  by_cases h : i ≤ s.size
  · exact (skip_le p s i h).1
  · rw [skip_end (by omega)]; omega
theorem skipF_all (p : Int → Bool) (s : ByteArray) : ∀ (f i j : Nat), i + f = s.size → i ≤ j → j < skipF p s f i → p (pk s j) = true := by
  intro f
  induction f with
  | zero => intro i j h h1 h2; simp [skipF] at h2; omega
  | succ f ih =>
    intro i j h h1 h2
    unfold skipF at h2
    split at h2
    · by_cases e : j = i
      · subst e; assumption
      · exact ih (i + 1) j (by omega) (by omega) h2
    · omega
/-- All that were passed have p. -/
theorem skip_all {p : Int → Bool} {s : ByteArray} {i j : Nat} (hi : i ≤ s.size) (h1 : i ≤ j) (h2 : j < skip p s i) : p (pk s j) = true := skipF_all p s _ i j (by omega) h1 h2
theorem skipF_at (p : Int → Bool) (s : ByteArray) (p0 : p 0 = false) : ∀ (f i : Nat), i + f = s.size → p (pk s (skipF p s f i)) = false := by
  intro f
  induction f with
  | zero => intro i h; simp [skipF]; rw [pk_out (by omega)]; exact p0
  | succ f ih =>
    intro i h
    unfold skipF
    split
    · exact ih (i + 1) (by omega)
    · rename_i h1; simpa using h1
/-- Where it ends there is no p. -/
theorem skip_at {p : Int → Bool} {s : ByteArray} {i : Nat} (p0 : p 0 = false) (hi : i ≤ s.size) : p (pk s (skip p s i)) = false := skipF_at p s p0 _ i (by omega)
theorem skip_idem {p : Int → Bool} {s : ByteArray} {i : Nat} (p0 : p 0 = false) (hi : i ≤ s.size) : skip p s (skip p s i) = skip p s i := skip_stop (skip_at p0 hi)

/-- Behind blanks; behind digits. -/
abbrev bl (s : ByteArray) (i : Nat) : Nat := skip isBl s i
abbrev dg (s : ByteArray) (i : Nat) : Nat := skip isDg s i
theorem bl_le (s : ByteArray) (i : Nat) (h : i ≤ s.size) : i ≤ bl s i ∧ bl s i ≤ s.size := skip_le isBl s i h
theorem dg_le (s : ByteArray) (i : Nat) (h : i ≤ s.size) : i ≤ dg s i ∧ dg s i ≤ s.size := skip_le isDg s i h
theorem bl_ge (s : ByteArray) (i : Nat) : i ≤ bl s i := skip_ge isBl s i
theorem dg_ge (s : ByteArray) (i : Nat) : i ≤ dg s i := skip_ge isDg s i
theorem bl_go {s : ByteArray} {i : Nat} (hi : i < s.size) (h : isBl (pk s i) = true) : bl s i = bl s (i + 1) := skip_go hi h
theorem bl_stop {s : ByteArray} {i : Nat} (h : isBl (pk s i) = false) : bl s i = i := skip_stop h
theorem dg_go {s : ByteArray} {i : Nat} (hi : i < s.size) (h : isDg (pk s i) = true) : dg s i = dg s (i + 1) := skip_go hi h
theorem dg_stop {s : ByteArray} {i : Nat} (h : isDg (pk s i) = false) : dg s i = i := skip_stop h

/-- The value of k digits from place i on. -/
def dv (s : ByteArray) (i : Nat) : Nat → Nat
  | 0 => 0
  | k + 1 => 10 * dv s i k + (pk s (i + k) - 48).toNat

theorem dv_lt (s : ByteArray) (i : Nat) : ∀ k, (∀ j, j < k → isDg (pk s (i + j)) = true) → dv s i k < 10 ^ k := by
  intro k
  induction k with
  | zero => intro _; simp [dv]
  | succ k ih =>
    intro h
    have h1 := ih (fun j hj => h j (by omega))
    have h2 := isDg_iff.1 (h k (by omega))
    rw [dv, Nat.pow_succ]
    omega

/-- A number: its value and its end. -/
def numTok (s : ByteArray) (i : Nat) : Option (Int × Nat) :=
  if pk s i = 45 then
    if dg s (i + 1) = i + 1 ∨ 19 < dg s (i + 1) - (i + 1) then none else some (-((dv s (i + 1) (dg s (i + 1) - (i + 1)) : Nat) : Int), dg s (i + 1))
  else
    if dg s i = i ∨ 19 < dg s i - i then none else some (((dv s i (dg s i - i) : Nat) : Int), dg s i)

theorem numTok_le {s : ByteArray} {i j : Nat} {z : Int} (hi : i ≤ s.size) (h : numTok s i = some (z, j)) : i < j ∧ j ≤ s.size := by
  unfold numTok at h
  split at h
  · rename_i h1
    have hl := lt_of_pk (s := s) (i := i) (by omega)
    have hk := dg_le s (i + 1) (by omega)
    split at h
    · cases h
    · rename_i h2
      simp only [Option.some.injEq, Prod.mk.injEq] at h
      obtain ⟨_, rfl⟩ := h
      omega
  · have hk := dg_le s i hi
    split at h
    · cases h
    · rename_i h2
      simp only [Option.some.injEq, Prod.mk.injEq] at h
      obtain ⟨_, rfl⟩ := h
      omega

/-- A count (1, if none stands there), and where the letter is looked for. -/
def cntTok (s : ByteArray) (i : Nat) : Option (Nat × Nat) :=
  if isDg (pk s i) then
    if pk s i = 48 ∨ 4 < dg s i - i then none else some (dv s i (dg s i - i), bl s (dg s i))
  else some (1, i)

/-- The runs from place i on (no blank stands there): where it goes wrong, or the runs and the place behind the mark. -/
def runsF (s : ByteArray) : Nat → Nat → Nat ⊕ (List (Nat × Int) × Nat)
  | 0, i => .inl i
  | f + 1, i =>
    if pk s i = 33 then .inr ([], i + 1)
    else match cntTok s i with
      | none => .inl i
      | some (n, k) =>
        if isLt (pk s k) then
          match runsF s f (bl s (k + 1)) with
          | .inl e => .inl e
          | .inr (l, e) => .inr ((n, pk s k) :: l, e)
        else .inl k
def runsAt (s : ByteArray) (i : Nat) : Nat ⊕ (List (Nat × Int) × Nat) := runsF s (s.size + 1 - i) i

/-- Runs laid ahead. -/
def ahead (acc : List (Nat × Int)) : Nat ⊕ (List (Nat × Int) × Nat) → Nat ⊕ (List (Nat × Int) × Nat)
  | .inl e => .inl e
  | .inr (l, e) => .inr (acc ++ l, e)

theorem ahead_nil (r : Nat ⊕ (List (Nat × Int) × Nat)) : ahead [] r = r := by rcases r with _ | ⟨_, _⟩ <;> rfl
theorem ahead_ahead (a b : List (Nat × Int)) (r : Nat ⊕ (List (Nat × Int) × Nat)) : ahead a (ahead b r) = ahead (a ++ b) r := by
  rcases r with _ | ⟨_, _⟩ <;> simp [ahead]

theorem cntTok_ge {s : ByteArray} {i n k : Nat} (h : cntTok s i = some (n, k)) : i ≤ k := by
  unfold cntTok at h
  split at h
  · split at h
    · cases h
    · simp only [Option.some.injEq, Prod.mk.injEq] at h
      obtain ⟨_, rfl⟩ := h
      exact Nat.le_trans (dg_ge _ _) (bl_ge _ _)
  · simp only [Option.some.injEq, Prod.mk.injEq] at h
    omega

theorem runsF_more (s : ByteArray) : ∀ (f i d : Nat), s.size < i + f → runsF s (f + d) i = runsF s f i := by
  intro f
  induction f with
  | zero =>
    intro i d h
    have hp : pk s i = 0 := pk_out (by omega)
    cases d with
    | zero => rfl
    | succ d => simp [runsF, hp, cntTok, isDg, isLt]
  | succ f ih =>
    intro i d h
    rw [show f + 1 + d = (f + d) + 1 by omega, runsF, runsF]
    split
    · rfl
    · split
      · rfl
      · rename_i n k hc
        have hk := cntTok_ge hc
        have hb := bl_ge s (k + 1)
        rw [ih (bl s (k + 1)) d (by omega)]

theorem runsAt_eq (s : ByteArray) (i : Nat) (hi : i ≤ s.size) : runsAt s i =
    if pk s i = 33 then .inr ([], i + 1)
    else match cntTok s i with
      | none => .inl i
      | some (n, k) => if isLt (pk s k) then ahead [(n, pk s k)] (runsAt s (bl s (k + 1))) else .inl k := by
  unfold runsAt
  rw [show s.size + 1 - i = (s.size - i) + 1 by omega, runsF]
  split
  · rfl
  · split
    · rfl
    · rename_i n k hc
      split
      · rename_i hl
        have hk := cntTok_ge hc
        have hkl := lt_of_pk (isLt_pos hl)
        have hb := bl_le s (k + 1) (by omega)
        have e : runsF s (s.size - i) (bl s (k + 1)) = runsF s (s.size + 1 - bl s (k + 1)) (bl s (k + 1)) := by
          have := runsF_more s (s.size + 1 - bl s (k + 1)) (bl s (k + 1)) (s.size - i - (s.size + 1 - bl s (k + 1))) (by omega)
          rw [← this]; congr 1
          omega
        rw [e]
        cases runsF s (s.size + 1 - bl s (k + 1)) (bl s (k + 1)) <;> rfl
      · rfl

/-- The whole text: where it goes wrong, or x, y and the runs. -/
def parse (s : ByteArray) : Nat ⊕ (Int × Int × List (Nat × Int)) :=
  match numTok s (bl s 0) with
  | none => .inl (bl s 0)
  | some (x, j) =>
    if bl s j = j then .inl j
    else match numTok s (bl s j) with
      | none => .inl (bl s j)
      | some (y, k) =>
        match runsAt s (bl s k) with
        | .inl e => .inl e
        | .inr (l, e) => if bl s e < s.size then .inl (bl s e) else .inr (x, y, l)

end Go.Proofs.YtiohpcnnpmnjhaaGreatDoor
