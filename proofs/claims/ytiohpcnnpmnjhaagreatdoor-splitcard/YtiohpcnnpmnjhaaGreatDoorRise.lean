import Derived.Test.YtiohpcnnpmnjhaaGreatDoorBlk
import Derived.Laws.Rows
import Derived.Laws.Tables
import Derived.Deep.MidRow
namespace Go.Proofs.YtiohpcnnpmnjhaaGreatDoor
open Go.RowKit
set_option linter.unusedVariables false

/-- Where the rising digits end. -/
def rise (s : ByteArray) : Nat → Nat → Int → Nat
  | 0, i, _ => i
  | f + 1, i, lo => if lo ≤ pk s i ∧ pk s i ≤ 56 then rise s f (i + 1) (pk s i + 1) else i
def riseEnd (s : ByteArray) (i : Nat) (lo : Int) : Nat := rise s (s.size - i) i lo
/-- Which digits they are (beside those of f). -/
def riseF (s : ByteArray) : Nat → Nat → Int → (Nat → Bool) → (Nat → Bool)
  | 0, _, _, f => f
  | n + 1, i, lo, f => if lo ≤ pk s i ∧ pk s i ≤ 56 then riseF s n (i + 1) (pk s i + 1) (fun j => if j = (pk s i - 48).toNat then true else f j) else f
def riseAt (s : ByteArray) (i : Nat) (lo : Int) (f : Nat → Bool) : Nat → Bool := riseF s (s.size - i) i lo f
def riseTab (s : ByteArray) (i : Nat) (lo : Int) : Nat → Bool := riseAt s i lo fun _ => false

theorem riseEnd_go {s : ByteArray} {i : Nat} {lo : Int} (hi : i < s.size) (h1 : lo ≤ pk s i) (h2 : pk s i ≤ 56) :
    riseEnd s i lo = riseEnd s (i + 1) (pk s i + 1) := by
  unfold riseEnd
  obtain ⟨f, hf⟩ : ∃ f, s.size - i = f + 1 := ⟨s.size - i - 1, by omega⟩
  rw [hf, show s.size - (i + 1) = f by omega, rise, if_pos ⟨h1, h2⟩]
theorem riseAt_go {s : ByteArray} {i : Nat} {lo : Int} {f : Nat → Bool} (hi : i < s.size) (h1 : lo ≤ pk s i) (h2 : pk s i ≤ 56) :
    riseAt s i lo f = riseAt s (i + 1) (pk s i + 1) (fun j => if j = (pk s i - 48).toNat then true else f j) := by
  unfold riseAt
  obtain ⟨n, hn⟩ : ∃ n, s.size - i = n + 1 := ⟨s.size - i - 1, by omega⟩
  rw [hn, show s.size - (i + 1) = n by omega, riseF, if_pos ⟨h1, h2⟩]
theorem riseEnd_stop {s : ByteArray} {i : Nat} {lo : Int} (h : i < s.size → ¬ (lo ≤ pk s i ∧ pk s i ≤ 56)) : riseEnd s i lo = i := by
  unfold riseEnd
  cases hf : s.size - i with
  | zero => rfl
  | succ f => rw [rise, if_neg (h (by omega))]
theorem riseAt_stop {s : ByteArray} {i : Nat} {lo : Int} {f : Nat → Bool} (h : i < s.size → ¬ (lo ≤ pk s i ∧ pk s i ≤ 56)) : riseAt s i lo f = f := by
  unfold riseAt
  cases hf : s.size - i with
  | zero => rfl
  | succ n => rw [riseF, if_neg (h (by omega))]
theorem rise_le (s : ByteArray) : ∀ (f i : Nat) (lo : Int), i + f = s.size → i ≤ rise s f i lo ∧ rise s f i lo ≤ s.size := by
  intro f
  induction f with
  | zero => intro i lo h; simp [rise]; omega
  | succ f ih =>
    intro i lo h
    unfold rise
    split
    · have := ih (i + 1) (pk s i + 1) (by omega); omega
    · omega
theorem riseEnd_le (s : ByteArray) (i : Nat) (lo : Int) (h : i ≤ s.size) : i ≤ riseEnd s i lo ∧ riseEnd s i lo ≤ s.size :=
  rise_le s _ i lo (by omega)

/-- Nine bools. -/
def nine (f : Nat → Bool) : Array Value := #[.bool (f 0), .bool (f 1), .bool (f 2), .bool (f 3), .bool (f 4), .bool (f 5), .bool (f 6), .bool (f 7), .bool (f 8)]
theorem nine_get (f : Nat → Bool) (k : Nat) (h : k < 9) : (nine f)[k]? = some (.bool (f k)) := by
  match k, h with
  | 0, _ | 1, _ | 2, _ | 3, _ | 4, _ | 5, _ | 6, _ | 7, _ | 8, _ => rfl
theorem nine_set (f : Nat → Bool) (k : Nat) (h : k < 9) : (nine f).setIfInBounds k (.bool true) = nine (fun j => if j = k then true else f j) := by
  match k, h with
  | 0, _ | 1, _ | 2, _ | 3, _ | 4, _ | 5, _ | 6, _ | 7, _ | 8, _ => rfl
theorem nine_one (f : Nat → Bool) : (nine f).all (·.oneCell') = true := by simp [nine, Value.oneCell']
theorem info9 : (Tryz.prog.info? 67).map (·.size) = some 9 := by kernel_rfl
/-- Nine bools, none. -/
abbrev Z9 : Array Value := #[.bool false, .bool false, .bool false, .bool false, .bool false, .bool false, .bool false, .bool false, .bool false]

theorem At.of_block {w w' : World} {b : Nat} {s : ByteArray} {k : Int} {i : Nat} (h : At w b s k i) (e : w'.heap[b]? = w.heap[b]?) : At w' b s k i :=
  ⟨(show w'.cell? ⟨b, 0, none⟩ = w.cell? ⟨b, 0, none⟩ from World.cell?_of_block e).trans h.c0, (show w'.cell? ⟨b, 1, none⟩ = w.cell? ⟨b, 1, none⟩ from World.cell?_of_block e).trans h.c1,
   (show w'.cell? ⟨b, 2, none⟩ = w.cell? ⟨b, 2, none⟩ from World.cell?_of_block e).trans h.c2, (show w'.frozen? ⟨b, 1, none⟩ = w.frozen? ⟨b, 1, none⟩ from World.frozen?_of_block e).trans h.fz⟩

set_option maxHeartbeats 400000 in
theorem expect_hit (b : Nat) (s : ByteArray) (k : Int) (i : Nat) (c : Int) (w : World) (h : At w b s k i) (hi : i ≤ s.size) (hs : s.size ≤ 1500) (hc : pk s i = c) :
    Calls Tryz.prog 87 #[.pointer (some ⟨b, 0, none⟩), .int .u8 c] w fun e w' => e = .returned (.tuple #[]) ∧ At w' b s k (i + 1) ∧ Near b w w' := by
  have hnot : ∀ (x : Bool) (w : World), (Op.unary .not (.bool x)).run Tryz.prog w = .ok (.bool (!x)) w := fun _ _ => rfl
  go_enter Tryz.func87, Tryz.ntmps87
  go_wp2_with (go_at_call 114; refine (take_hit b s k i c _ h hi hs hc).mono ?_; rintro e w' ⟨rfl, ha, hb⟩)
  go_end0
  exact ⟨rfl, ha, hb⟩

set_option maxHeartbeats 400000 in
theorem expect_miss (b : Nat) (s : ByteArray) (k : Int) (i : Nat) (c : Int) (w : World) (h : At w b s k i) (hi : i ≤ s.size) (hs : s.size ≤ 1500) (hc : (pk s i == c) = false) :
    Calls Tryz.prog 87 #[.pointer (some ⟨b, 0, none⟩), .int .u8 c] w fun e w' => e = .panicked (refusal k i) ∧ Near b w w' := by
  go_enter Tryz.func87, Tryz.ntmps87
  go_wp2_with (first | (go_at_call 114; refine (take_miss b s k i c _ h hi hs hc).mono ?_; rintro e w' ⟨rfl, n, rfl⟩) | (go_at_call 115; refine (refuse_any b s k i _ (h.drewN _)).mono ?_; rintro e w' ⟨rfl, m, rfl⟩))
  exact ⟨rfl, rfl, (Near.refl b w).drewN _⟩

end Go.Proofs.YtiohpcnnpmnjhaaGreatDoor
