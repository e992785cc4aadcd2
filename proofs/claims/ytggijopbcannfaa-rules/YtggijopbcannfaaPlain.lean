import Derived.Test.YtggijopbcannfaaRows
import Derived.WalkKit
import Derived.WalkSpells
import Derived.WalkLawsBesides
namespace Go.Proofs.Ytggijopbcannfaa
open Go.RowKit

/-- The byte at place i, 0 behind the end. -/
def pk (s : ByteArray) (i : Nat) : Int := if h : i < s.size then (s[i].toNat : Int) else 0

theorem pk_in {s : ByteArray} {i : Nat} (h : i < s.size) : pk s i = (s[i].toNat : Int) := by simp [pk, h]
theorem pk_out {s : ByteArray} {i : Nat} (h : ¬ i < s.size) : pk s i = 0 := by simp [pk, h]
theorem pk_bd (s : ByteArray) (i : Nat) : 0 ≤ pk s i ∧ pk s i ≤ 255 := by
  unfold pk; split
  · have := s[i].toNat_lt; omega
  · omega

/-- Where the rising digits end. -/
def rise (s : ByteArray) : Nat → Nat → Int → Nat
  | 0, i, _ => i
  | f + 1, i, lo => if lo ≤ pk s i ∧ pk s i ≤ 56 then rise s f (i + 1) (pk s i + 1) else i

def riseEnd (s : ByteArray) (i : Nat) (lo : Int) : Nat := rise s (s.size - i) i lo

theorem riseEnd_go {s : ByteArray} {i : Nat} {lo : Int} (hi : i < s.size) (h1 : lo ≤ pk s i) (h2 : pk s i ≤ 56) :
    riseEnd s i lo = riseEnd s (i + 1) (pk s i + 1) := by
  unfold riseEnd
  obtain ⟨f, hf⟩ : ∃ f, s.size - i = f + 1 := ⟨s.size - i - 1, by omega⟩
  rw [hf, show s.size - (i + 1) = f by omega, rise, if_pos ⟨h1, h2⟩]

theorem riseEnd_stop {s : ByteArray} {i : Nat} {lo : Int} (h : i < s.size → ¬ (lo ≤ pk s i ∧ pk s i ≤ 56)) : riseEnd s i lo = i := by
  unfold riseEnd
  cases hf : s.size - i with
  | zero => rfl
  | succ f => rw [rise, if_neg (h (by omega))]

theorem rise_le (s : ByteArray) : ∀ (f i : Nat) (lo : Int), i + f = s.size → i ≤ rise s f i lo ∧ rise s f i lo ≤ s.size := by
  intro f
  induction f with
  | zero => intro i lo h; simp [rise]; omega
  | succ f ih =>
    intro i lo h
    unfold rise
    split
    · have := ih (i + 1) (pk s i + 1) (by omega); omega
    · omega

theorem riseEnd_le (s : ByteArray) (i : Nat) (lo : Int) (h : i ≤ s.size) : i ≤ riseEnd s i lo ∧ riseEnd s i lo ≤ s.size :=
  rise_le s _ i lo (by omega)

/-- The reader's block: the text, the place, the error. -/
structure At (w : World) (b : Nat) (s : ByteArray) (i : Nat) : Prop where
  c0 : w.cell? ⟨b, 0, none⟩ = some (.string s)
  c1 : w.cell? ⟨b, 1, none⟩ = some (.int .i64 (i : Int))
  c2 : w.cell? ⟨b, 2, none⟩ = some (.int .i64 3)
  fz : w.frozen? ⟨b, 1, none⟩ = false

theorem At.drewN {w : World} {b : Nat} {s : ByteArray} {i : Nat} (h : At w b s i) (n : Nat) : At (w.drewN n) b s i := ⟨h.c0, h.c1, h.c2, h.fz⟩

end Go.Proofs.Ytggijopbcannfaa
