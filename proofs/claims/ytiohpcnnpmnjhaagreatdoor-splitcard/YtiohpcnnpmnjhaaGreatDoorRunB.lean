import Derived.Test.YtiohpcnnpmnjhaaGreatDoorFrmM
import Derived.Lib.ItoaLen
import Derived.Lib.ItoaNum
namespace Go.Proofs.YtiohpcnnpmnjhaaGreatDoor
open Go.RowKit
set_option linter.unusedVariables false

/-- A run of n: as many of 9999 as go, and the rest; counts of 1 left out. -/
def runN : Nat → Nat → UInt8 → List UInt8
  | 0, _, _ => []
  | f + 1, n, c => if n = 0 then [] else (if 1 < min n 9999 then Lib.itoa ((min n 9999 : Nat) : Int) else []) ++ c :: runN f (n - min n 9999) c
def runB (n : Nat) (c : UInt8) : List UInt8 := runN n n c

theorem runN_more : ∀ (f n d : Nat) (c : UInt8), n ≤ f → runN (f + d) n c = runN f n c := by
  intro f
  induction f with
  | zero => intro n d c h; obtain rfl : n = 0 := by omega
            cases d <;> simp [runN]
  | succ f ih =>
    intro n d c h
    rw [show f + 1 + d = (f + d) + 1 by omega, runN, runN]
    split
    · rfl
    · rw [ih _ d c (by omega)]
theorem runB_eq (n : Nat) (c : UInt8) : runB n c = if n = 0 then [] else (if 1 < min n 9999 then Lib.itoa ((min n 9999 : Nat) : Int) else []) ++ c :: runB (n - min n 9999) c := by
  unfold runB
  cases n with
  | zero => simp [runN]
  | succ n =>
    rw [runN]
    have := runN_more (n + 1 - min (n + 1) 9999) (n + 1 - min (n + 1) 9999) (n - (n + 1 - min (n + 1) 9999)) c (Nat.le_refl _)
    rw [← this]
    congr
    omega
theorem runB_zero (c : UInt8) : runB 0 c = [] := by rw [runB_eq]; simp
theorem runB_one (c : UInt8) : runB 1 c = [c] := by rw [runB_eq]; simp [runB_zero]
theorem runB_small {n : Nat} (c : UInt8) (h1 : 1 < n) (h2 : n ≤ 9999) : runB n c = Lib.itoa (n : Int) ++ [c] := by
  rw [runB_eq, if_neg (by omega), show min n 9999 = n by omega, if_pos h1, Nat.sub_self, runB_zero]
theorem runB_big {n : Nat} (c : UInt8) (h : 9999 < n) : runB n c = Lib.itoa 9999 ++ c :: runB (n - 9999) c := by
  rw [runB_eq, if_neg (by omega), show min n 9999 = 9999 by omega, if_pos (by omega)]; rfl

theorem itoa_len4 {n : Nat} (h : n ≤ 9999) : (Lib.itoa (n : Int)).length ≤ 4 := by
  have hd : Lib.itoa (n : Int) = Lib.decDigits n := by simp [Lib.itoa]
  rw [hd, Lib.decDigits_length]
  by_cases h0 : n < 10
  · rw [Lib.nDigits_small h0]; omega
  · rw [Lib.nDigits_big h0]
    by_cases h1 : n / 10 < 10
    · rw [Lib.nDigits_small h1]; omega
    · rw [Lib.nDigits_big h1]
      by_cases h2 : n / 10 / 10 < 10
      · rw [Lib.nDigits_small h2]; omega
      · rw [Lib.nDigits_big h2, Lib.nDigits_small (by omega)]; omega

set_option maxRecDepth 100000 in
theorem runB_len : ∀ (n : Nat) (c : UInt8), (runB n c).length ≤ 5 * n := by
  intro n
  induction n using Nat.strongRecOn with
  | _ n ih =>
    intro c
    by_cases h0 : n = 0
    · subst h0; rw [runB_zero]; simp
    · by_cases h1 : n = 1
      · subst h1; rw [runB_one]; simp
      · by_cases h2 : n ≤ 9999
        · rw [runB_small c (by omega) h2]
          have := itoa_len4 h2
          simp; omega
        · rw [runB_big c (by omega)]
          have := ih (n - 9999) (by omega) c
          have h4 := itoa_len4 (n := 9999) (by omega)
          simp at h4 ⊢; omega


end Go.Proofs.YtiohpcnnpmnjhaaGreatDoor
