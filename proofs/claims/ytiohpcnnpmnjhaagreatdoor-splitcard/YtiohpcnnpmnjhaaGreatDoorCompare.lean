import Derived.Test.YtiohpcnnpmnjhaaGreatDoorLifeSpec
import Derived.Test.YtiohpcnnpmnjhaaGreatDoorRuleRead
import Derived.Deep.RegionWith
namespace Go.Proofs.YtiohpcnnpmnjhaaGreatDoor
open Go.RowKit
set_option linter.unusedVariables false

/-- Three ways. -/
def cmpI (a b : Int) : Int := if a < b then -1 else if b < a then 1 else 0
/-- By y, then by x. -/
def cmpC (a b : Cel) : Int := if cmpI a.2 b.2 = 0 then cmpI a.1 b.1 else cmpI a.2 b.2
theorem cmpC_lt (a b : Cel) : cmpC a b < 0 ↔ before a b := by
  obtain ⟨x, y⟩ := a
  obtain ⟨u, v⟩ := b
  unfold cmpC cmpI before
  simp only
  split <;> split <;> (try split) <;> (try split) <;> omega
theorem cmpC_eq (a b : Cel) : cmpC a b = 0 ↔ a = b := by
  obtain ⟨x, y⟩ := a
  obtain ⟨u, v⟩ := b
  unfold cmpC cmpI
  simp only [Prod.mk.injEq]
  split <;> split <;> (try split) <;> (try split) <;> omega
theorem cmpI_bd (a b : Int) : -1 ≤ cmpI a b ∧ cmpI a b ≤ 1 := by unfold cmpI; split <;> (try split) <;> omega

set_option maxHeartbeats 400000 in
theorem isNaN_any (a : Int) (w : World) : Calls Tryz.prog 154 #[.int .i64 a] w fun e w' => e = .returned (.bool false) ∧ w' = w := by
  go_enter Tryz.func154, Tryz.ntmps154
  go_wp2
  go_ret
  exact ⟨rfl, rfl⟩

set_option maxHeartbeats 400000 in
theorem cmpInt_any (a b : Int) (w : World) : Calls Tryz.prog 129 #[.int .i64 a, .int .i64 b] w fun e w' => e = .returned (.int .i64 (cmpI a b)) ∧ w' = w := by
  by_cases h1 : a < b
  · go_enter Tryz.func129, Tryz.ntmps129
    go_wp2_with (go_at_call 154; refine (isNaN_any _ _).mono ?_; rintro e w' ⟨rfl, rfl⟩)
    go_ret
    exact ⟨ret_int (by simp [cmpI, h1]), rfl⟩
  · by_cases h2 : b < a
    · go_enter Tryz.func129, Tryz.ntmps129
      go_wp2_with (go_at_call 154; refine (isNaN_any _ _).mono ?_; rintro e w' ⟨rfl, rfl⟩)
      go_ret
      exact ⟨ret_int (by simp [cmpI, h1, h2]), rfl⟩
    · go_enter Tryz.func129, Tryz.ntmps129
      go_wp2_with (go_at_call 154; refine (isNaN_any _ _).mono ?_; rintro e w' ⟨rfl, rfl⟩)
      go_ret
      exact ⟨ret_int (a := 0) (by unfold cmpI; rw [if_neg (by omega), if_neg (by omega)]), rfl⟩

set_option maxHeartbeats 800000 in
theorem cmpOr_any (a b : Int) (g : Nat) (w : World) (h0 : w.cell? ⟨g, 0, none⟩ = some (.int .i64 a)) (h1 : w.cell? ⟨g, 1, none⟩ = some (.int .i64 b)) :
    Calls Tryz.prog 128 #[.slice (some ⟨g, 0, none⟩) 2 2] w fun e w' => e = .returned (.int .i64 (if a = 0 then b else a)) ∧ w' = w := by
  by_cases ha : a = 0
  · subst ha
    by_cases hb : b = 0
    · subst hb
      go_enter Tryz.func128, Tryz.ntmps128
      go_wp2
      refine wp_loop_rounds 3 ?_
      rw [rounds_succ]
      go_wp2
      rw [rounds_succ]
      go_wp2
      rw [rounds_succ]
      go_wp2
      go_ret
      exact ⟨ret_int (by simp), rfl⟩
    · have hne : (b == 0) = false := by simpa using hb
      have hne2 : (b != 0) = true := by simp [hb]
      go_enter Tryz.func128, Tryz.ntmps128
      go_wp2
      refine wp_loop_rounds 2 ?_
      rw [rounds_succ]
      go_wp2
      rw [rounds_succ]
      go_wp2
      go_ret
      exact ⟨ret_int (by simp), rfl⟩
  · have hne : (a == 0) = false := by simpa using ha
    have hne2 : (a != 0) = true := by simp [ha]
    go_enter Tryz.func128, Tryz.ntmps128
    go_wp2
    refine wp_loop_rounds 1 ?_
    rw [rounds_succ]
    go_wp2
    go_ret
    exact ⟨ret_int (by simp), rfl⟩

set_option maxHeartbeats 400000 in
theorem lives_any (f g : Nat → Bool) (b : Bool) (n : Nat) (hn : n < 9) (w : World) :
    Calls Tryz.prog 140 #[.agg (twoN f g), .bool b, .int .i64 (n : Int)] w fun e w' => e = .returned (.bool (if b then g n else f n)) ∧ w' = w.alloc (.cells (twoN f g) 69) := by
  have hb := blk_new w (.cells (twoN f g) 69)
  have tf : (w.alloc (.cells (twoN f g) 69)).cell? ⟨w.heap.size, n, none⟩ = some (.bool (f n)) := by
    rw [cell_of hb n]
    match n, hn with
    | 0, _ | 1, _ | 2, _ | 3, _ | 4, _ | 5, _ | 6, _ | 7, _ | 8, _ => rfl
  have tg : (w.alloc (.cells (twoN f g) 69)).cell? ⟨w.heap.size, 9 + n, none⟩ = some (.bool (g n)) := by
    rw [cell_of hb (9 + n)]
    match n, hn with
    | 0, _ | 1, _ | 2, _ | 3, _ | 4, _ | 5, _ | 6, _ | 7, _ | 8, _ => rfl
  cases b with
  | true =>
    go_enter Tryz.func140, Tryz.ntmps140
    go_wp2
    go_ret
    exact ⟨rfl, rfl⟩
  | false =>
    go_enter Tryz.func140, Tryz.ntmps140
    go_wp2
    go_ret
    exact ⟨rfl, rfl⟩

end Go.Proofs.YtiohpcnnpmnjhaaGreatDoor
