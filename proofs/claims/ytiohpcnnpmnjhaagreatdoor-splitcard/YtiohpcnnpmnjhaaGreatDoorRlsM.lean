import Derived.Test.YtiohpcnnpmnjhaaGreatDoorRefLife1
namespace Go.Proofs.YtiohpcnnpmnjhaaGreatDoor
open Go.RowKit
set_option linter.unusedVariables false

/-- A spot as a value: its generation, its cell, whose it is. -/
def spotA (t x y o : Int) : Array Value := #[.int .i64 t, .int .i64 x, .int .i64 y, .int .i64 o]
/-- Are the differences no greater than k? -/
def inB (k d e : Int) : Bool := decide (-k ≤ d) && decide (d ≤ k) && decide (-k ≤ e) && decide (e ≤ k)
theorem inB_cases (k d e : Int) : (¬ -k ≤ d ∧ inB k d e = false) ∨ (-k ≤ d ∧ ¬ d ≤ k ∧ inB k d e = false) ∨ (-k ≤ d ∧ d ≤ k ∧ ¬ -k ≤ e ∧ inB k d e = false) ∨ (-k ≤ d ∧ d ≤ k ∧ -k ≤ e ∧ ¬ e ≤ k ∧ inB k d e = false) ∨ (-k ≤ d ∧ d ≤ k ∧ -k ≤ e ∧ e ≤ k ∧ inB k d e = true) := by
  unfold inB
  by_cases h1 : -k ≤ d <;> by_cases h2 : d ≤ k <;> by_cases h3 : -k ≤ e <;> by_cases h4 : e ≤ k <;> simp [h1, h2, h3, h4]
/-- Linked, as the reference tells it. -/
def lkB (p dx dy ta ax ay tb bx yb : Int) : Bool :=
  if ta = tb then inB 2 (ax - bx) (ay - yb)
  else if (ta = tb + 1 ∨ tb = ta + 1) ∧ inB 1 (ax - bx) (ay - yb) = true then true
  else if ta = 0 ∧ tb = p then decide (ax + dx = bx) && decide (ay + dy = yb)
  else if tb = 0 ∧ ta = p then decide (bx + dx = ax) && decide (yb + dy = ay)
  else false
/-- What linked leaves. -/
def LinkOut (b : Bool) (w : World) (e : Ending) (w' : World) : Prop := e = .returned (.bool b) ∧ Below w.heap.size w w'

set_option maxRecDepth 100000 in
set_option maxHeartbeats 1600000 in
theorem linked_same (s p dx dy t ax ay oa bx yb ob d e : Int) (w : World) (hd : IntKind.i64.wrap (ax - bx) = d) (he : IntKind.i64.wrap (ay - yb) = e) :
    Calls Tryz.prog 84 #[.agg #[.int .i64 t, .int .i64 ax, .int .i64 ay, .int .i64 oa], .agg #[.int .i64 t, .int .i64 bx, .int .i64 yb, .int .i64 ob], .agg #[.int .i64 s, .int .i64 p, .int .i64 dx, .int .i64 dy]] w (LinkOut (inB 2 d e) w) := by
  rcases inB_cases 2 d e with ⟨h1, h⟩ | ⟨h1, h2, h⟩ | ⟨h1, h2, h3, h⟩ | ⟨h1, h2, h3, h4, h⟩ | ⟨h1, h2, h3, h4, h⟩
  all_goals (
    rw [h]; clear h
    go_enter Tryz.func84, Tryz.ntmps84
    go_wp2
    go_ret
    exact ⟨rfl, (((Below.refl _ w).alloc (Nat.le_refl _) _).alloc (by simp) _).alloc (by simp; omega) _⟩)

set_option maxRecDepth 100000 in
set_option maxHeartbeats 1600000 in
theorem linked_turnA (s p dx dy ta ax ay oa tb bx yb ob d e x1 y1 x2 y2 : Int) (w : World) (hd : IntKind.i64.wrap (ax - bx) = d) (he : IntKind.i64.wrap (ay - yb) = e) (hx1 : IntKind.i64.wrap (ax + dx) = x1) (hy1 : IntKind.i64.wrap (ay + dy) = y1) (hx2 : IntKind.i64.wrap (bx + dx) = x2) (hy2 : IntKind.i64.wrap (yb + dy) = y2) (ha0 : 0 ≤ ta) (ha1 : ta ≤ 1000) (hb0 : 0 ≤ tb) (hb1 : tb ≤ 1000) (hp0 : 1 ≤ p) (h0 : ta = tb + 1) (hi : inB 1 d e = true) :
    Calls Tryz.prog 84 #[.agg #[.int .i64 ta, .int .i64 ax, .int .i64 ay, .int .i64 oa], .agg #[.int .i64 tb, .int .i64 bx, .int .i64 yb, .int .i64 ob], .agg #[.int .i64 s, .int .i64 p, .int .i64 dx, .int .i64 dy]] w (LinkOut (true) w) := by
  rcases inB_cases 1 d e with ⟨h1, h⟩ | ⟨h1, h2, h⟩ | ⟨h1, h2, h3, h⟩ | ⟨h1, h2, h3, h4, h⟩ | ⟨h1, h2, h3, h4, h⟩
  · rw [h] at hi; cases hi
  · rw [h] at hi; cases hi
  · rw [h] at hi; cases hi
  · rw [h] at hi; cases hi
  clear h hi
  subst h0
  have n0 : ((tb + 1 == tb) : Bool) = false := by simp; omega
  have n1 : ¬ tb + 1 = tb := by omega
  all_goals (
    go_enter Tryz.func84, Tryz.ntmps84
    go_wp2
    go_ret
    exact ⟨rfl, (((Below.refl _ w).alloc (Nat.le_refl _) _).alloc (by simp) _).alloc (by simp; omega) _⟩)

set_option maxRecDepth 100000 in
set_option maxHeartbeats 1600000 in
theorem linked_turnB (s p dx dy ta ax ay oa tb bx yb ob d e x1 y1 x2 y2 : Int) (w : World) (hd : IntKind.i64.wrap (ax - bx) = d) (he : IntKind.i64.wrap (ay - yb) = e) (hx1 : IntKind.i64.wrap (ax + dx) = x1) (hy1 : IntKind.i64.wrap (ay + dy) = y1) (hx2 : IntKind.i64.wrap (bx + dx) = x2) (hy2 : IntKind.i64.wrap (yb + dy) = y2) (ha0 : 0 ≤ ta) (ha1 : ta ≤ 1000) (hb0 : 0 ≤ tb) (hb1 : tb ≤ 1000) (hp0 : 1 ≤ p) (h0 : tb = ta + 1) (hi : inB 1 d e = true) :
    Calls Tryz.prog 84 #[.agg #[.int .i64 ta, .int .i64 ax, .int .i64 ay, .int .i64 oa], .agg #[.int .i64 tb, .int .i64 bx, .int .i64 yb, .int .i64 ob], .agg #[.int .i64 s, .int .i64 p, .int .i64 dx, .int .i64 dy]] w (LinkOut (true) w) := by
  rcases inB_cases 1 d e with ⟨h1, h⟩ | ⟨h1, h2, h⟩ | ⟨h1, h2, h3, h⟩ | ⟨h1, h2, h3, h4, h⟩ | ⟨h1, h2, h3, h4, h⟩
  · rw [h] at hi; cases hi
  · rw [h] at hi; cases hi
  · rw [h] at hi; cases hi
  · rw [h] at hi; cases hi
  clear h hi
  subst h0
  have n0 : ((ta == ta + 1) : Bool) = false := by simp; omega
  have n1 : ¬ ta = ta + 1 := by omega
  have n2 : ((ta == ta + 1 + 1) : Bool) = false := by simp; omega
  have n3 : ¬ ta = ta + 1 + 1 := by omega
  all_goals (
    go_enter Tryz.func84, Tryz.ntmps84
    go_wp2
    go_ret
    exact ⟨rfl, (((Below.refl _ w).alloc (Nat.le_refl _) _).alloc (by simp) _).alloc (by simp; omega) _⟩)

theorem two_cases (a b c d : Int) : (¬ a = b ∧ (a == b) = false ∧ (decide (a = b) && decide (c = d)) = false) ∨ (a = b ∧ (a == b) = true ∧ ¬ c = d ∧ (c == d) = false ∧ (decide (a = b) && decide (c = d)) = false) ∨ (a = b ∧ (a == b) = true ∧ c = d ∧ (c == d) = true ∧ (decide (a = b) && decide (c = d)) = true) := by
  by_cases h1 : a = b <;> by_cases h2 : c = d <;> simp [h1, h2]
theorem ne_b {a b : Int} (h : ¬ a = b) : (a == b) = false := by simpa using h

end Go.Proofs.YtiohpcnnpmnjhaaGreatDoor

namespace Go.Proofs.YtiohpcnnpmnjhaaGreatDoor
open Go.RowKit
set_option linter.unusedVariables false

set_option maxRecDepth 100000 in
set_option maxHeartbeats 1600000 in
theorem linked_A2 (s  dx dy ax ay oa bx yb ob d e x1 y1 x2 y2 : Int) (w : World) (hd : IntKind.i64.wrap (ax - bx) = d) (he : IntKind.i64.wrap (ay - yb) = e) (hx1 : IntKind.i64.wrap (ax + dx) = x1) (hy1 : IntKind.i64.wrap (ay + dy) = y1) (hx2 : IntKind.i64.wrap (bx + dx) = x2) (hy2 : IntKind.i64.wrap (yb + dy) = y2) (hi : inB 1 d e = false) :
    Calls Tryz.prog 84 #[.agg #[.int .i64 1, .int .i64 ax, .int .i64 ay, .int .i64 oa], .agg #[.int .i64 0, .int .i64 bx, .int .i64 yb, .int .i64 ob], .agg #[.int .i64 s, .int .i64 1, .int .i64 dx, .int .i64 dy]] w (LinkOut (decide (x2 = ax) && decide (y2 = ay)) w) := by
  rcases inB_cases 1 d e with ⟨h1, h⟩ | ⟨h1, h2, h⟩ | ⟨h1, h2, h3, h⟩ | ⟨h1, h2, h3, h4, h⟩ | ⟨h1, h2, h3, h4, h⟩
  rotate_left 4
  · rw [h] at hi; cases hi
  all_goals clear h hi
  all_goals rcases two_cases x2 ax y2 ay with ⟨e1, f1, e0⟩ | ⟨e1, f1, e2, f2, e0⟩ | ⟨e1, f1, e2, f2, e0⟩
  all_goals (
    rw [e0]; clear e0; first | (subst e1 e2) | (subst e1) | skip
    go_enter Tryz.func84, Tryz.ntmps84
    go_wp2
    go_ret
    exact ⟨rfl, (((Below.refl _ w).alloc (Nat.le_refl _) _).alloc (by simp) _).alloc (by simp; omega) _⟩)

set_option maxRecDepth 100000 in
set_option maxHeartbeats 1600000 in
theorem linked_A00 (s p dx dy ax ay oa bx yb ob d e x1 y1 x2 y2 : Int) (w : World) (hd : IntKind.i64.wrap (ax - bx) = d) (he : IntKind.i64.wrap (ay - yb) = e) (hx1 : IntKind.i64.wrap (ax + dx) = x1) (hy1 : IntKind.i64.wrap (ay + dy) = y1) (hx2 : IntKind.i64.wrap (bx + dx) = x2) (hy2 : IntKind.i64.wrap (yb + dy) = y2) (hi : inB 1 d e = false) (hp : 2 ≤ p) :
    Calls Tryz.prog 84 #[.agg #[.int .i64 1, .int .i64 ax, .int .i64 ay, .int .i64 oa], .agg #[.int .i64 0, .int .i64 bx, .int .i64 yb, .int .i64 ob], .agg #[.int .i64 s, .int .i64 p, .int .i64 dx, .int .i64 dy]] w (LinkOut (false) w) := by
  have n0 : ¬ (1 : Int) = p := by omega
  have m0 := ne_b n0
  rcases inB_cases 1 d e with ⟨h1, h⟩ | ⟨h1, h2, h⟩ | ⟨h1, h2, h3, h⟩ | ⟨h1, h2, h3, h4, h⟩ | ⟨h1, h2, h3, h4, h⟩
  rotate_left 4
  · rw [h] at hi; cases hi
  all_goals clear h hi
  all_goals (
    go_enter Tryz.func84, Tryz.ntmps84
    go_wp2
    go_ret
    exact ⟨rfl, (((Below.refl _ w).alloc (Nat.le_refl _) _).alloc (by simp) _).alloc (by simp; omega) _⟩)

set_option maxRecDepth 100000 in
set_option maxHeartbeats 1600000 in
theorem linked_A01 (s p t dx dy ax ay oa bx yb ob d e x1 y1 x2 y2 : Int) (w : World) (hd : IntKind.i64.wrap (ax - bx) = d) (he : IntKind.i64.wrap (ay - yb) = e) (hx1 : IntKind.i64.wrap (ax + dx) = x1) (hy1 : IntKind.i64.wrap (ay + dy) = y1) (hx2 : IntKind.i64.wrap (bx + dx) = x2) (hy2 : IntKind.i64.wrap (yb + dy) = y2) (hi : inB 1 d e = false) (hp : 1 ≤ p) (ht : 1 ≤ t) (ht1 : t ≤ 1000) :
    Calls Tryz.prog 84 #[.agg #[.int .i64 (t + 1), .int .i64 ax, .int .i64 ay, .int .i64 oa], .agg #[.int .i64 t, .int .i64 bx, .int .i64 yb, .int .i64 ob], .agg #[.int .i64 s, .int .i64 p, .int .i64 dx, .int .i64 dy]] w (LinkOut (false) w) := by
  have n0 : ¬ t + 1 = t := by omega
  have m0 := ne_b n0
  have n1 : ¬ t + 1 = 0 := by omega
  have m1 := ne_b n1
  have n2 : ¬ t = 0 := by omega
  have m2 := ne_b n2
  rcases inB_cases 1 d e with ⟨h1, h⟩ | ⟨h1, h2, h⟩ | ⟨h1, h2, h3, h⟩ | ⟨h1, h2, h3, h4, h⟩ | ⟨h1, h2, h3, h4, h⟩
  rotate_left 4
  · rw [h] at hi; cases hi
  all_goals clear h hi
  all_goals (
    go_enter Tryz.func84, Tryz.ntmps84
    go_wp2
    go_ret
    exact ⟨rfl, (((Below.refl _ w).alloc (Nat.le_refl _) _).alloc (by simp) _).alloc (by simp; omega) _⟩)

end Go.Proofs.YtiohpcnnpmnjhaaGreatDoor

namespace Go.Proofs.YtiohpcnnpmnjhaaGreatDoor
open Go.RowKit
set_option linter.unusedVariables false

set_option maxRecDepth 100000 in
set_option maxHeartbeats 1600000 in
theorem linked_B1 (s  dx dy ax ay oa bx yb ob d e x1 y1 x2 y2 : Int) (w : World) (hd : IntKind.i64.wrap (ax - bx) = d) (he : IntKind.i64.wrap (ay - yb) = e) (hx1 : IntKind.i64.wrap (ax + dx) = x1) (hy1 : IntKind.i64.wrap (ay + dy) = y1) (hx2 : IntKind.i64.wrap (bx + dx) = x2) (hy2 : IntKind.i64.wrap (yb + dy) = y2) (hi : inB 1 d e = false) :
    Calls Tryz.prog 84 #[.agg #[.int .i64 0, .int .i64 ax, .int .i64 ay, .int .i64 oa], .agg #[.int .i64 1, .int .i64 bx, .int .i64 yb, .int .i64 ob], .agg #[.int .i64 s, .int .i64 1, .int .i64 dx, .int .i64 dy]] w (LinkOut (decide (x1 = bx) && decide (y1 = yb)) w) := by
  rcases inB_cases 1 d e with ⟨h1, h⟩ | ⟨h1, h2, h⟩ | ⟨h1, h2, h3, h⟩ | ⟨h1, h2, h3, h4, h⟩ | ⟨h1, h2, h3, h4, h⟩
  rotate_left 4
  · rw [h] at hi; cases hi
  all_goals clear h hi
  all_goals rcases two_cases x1 bx y1 yb with ⟨e1, f1, e0⟩ | ⟨e1, f1, e2, f2, e0⟩ | ⟨e1, f1, e2, f2, e0⟩
  all_goals (
    rw [e0]; clear e0; first | (subst e1 e2) | (subst e1) | skip
    go_enter Tryz.func84, Tryz.ntmps84
    go_wp2
    go_ret
    exact ⟨rfl, (((Below.refl _ w).alloc (Nat.le_refl _) _).alloc (by simp) _).alloc (by simp; omega) _⟩)

set_option maxRecDepth 100000 in
set_option maxHeartbeats 1600000 in
theorem linked_B00 (s p dx dy ax ay oa bx yb ob d e x1 y1 x2 y2 : Int) (w : World) (hd : IntKind.i64.wrap (ax - bx) = d) (he : IntKind.i64.wrap (ay - yb) = e) (hx1 : IntKind.i64.wrap (ax + dx) = x1) (hy1 : IntKind.i64.wrap (ay + dy) = y1) (hx2 : IntKind.i64.wrap (bx + dx) = x2) (hy2 : IntKind.i64.wrap (yb + dy) = y2) (hi : inB 1 d e = false) (hp : 2 ≤ p) :
    Calls Tryz.prog 84 #[.agg #[.int .i64 0, .int .i64 ax, .int .i64 ay, .int .i64 oa], .agg #[.int .i64 1, .int .i64 bx, .int .i64 yb, .int .i64 ob], .agg #[.int .i64 s, .int .i64 p, .int .i64 dx, .int .i64 dy]] w (LinkOut (false) w) := by
  have n0 : ¬ (1 : Int) = p := by omega
  have m0 := ne_b n0
  rcases inB_cases 1 d e with ⟨h1, h⟩ | ⟨h1, h2, h⟩ | ⟨h1, h2, h3, h⟩ | ⟨h1, h2, h3, h4, h⟩ | ⟨h1, h2, h3, h4, h⟩
  rotate_left 4
  · rw [h] at hi; cases hi
  all_goals clear h hi
  all_goals (
    go_enter Tryz.func84, Tryz.ntmps84
    go_wp2
    go_ret
    exact ⟨rfl, (((Below.refl _ w).alloc (Nat.le_refl _) _).alloc (by simp) _).alloc (by simp; omega) _⟩)

set_option maxRecDepth 100000 in
set_option maxHeartbeats 1600000 in
theorem linked_B01 (s p t dx dy ax ay oa bx yb ob d e x1 y1 x2 y2 : Int) (w : World) (hd : IntKind.i64.wrap (ax - bx) = d) (he : IntKind.i64.wrap (ay - yb) = e) (hx1 : IntKind.i64.wrap (ax + dx) = x1) (hy1 : IntKind.i64.wrap (ay + dy) = y1) (hx2 : IntKind.i64.wrap (bx + dx) = x2) (hy2 : IntKind.i64.wrap (yb + dy) = y2) (hi : inB 1 d e = false) (hp : 1 ≤ p) (ht : 1 ≤ t) (ht1 : t ≤ 1000) :
    Calls Tryz.prog 84 #[.agg #[.int .i64 t, .int .i64 ax, .int .i64 ay, .int .i64 oa], .agg #[.int .i64 (t + 1), .int .i64 bx, .int .i64 yb, .int .i64 ob], .agg #[.int .i64 s, .int .i64 p, .int .i64 dx, .int .i64 dy]] w (LinkOut (false) w) := by
  have n0 : ¬ t = t + 1 := by omega
  have m0 := ne_b n0
  have n1 : ¬ t = t + 1 + 1 := by omega
  have m1 := ne_b n1
  have n2 : ¬ t + 1 = 0 := by omega
  have m2 := ne_b n2
  have n3 : ¬ t = 0 := by omega
  have m3 := ne_b n3
  rcases inB_cases 1 d e with ⟨h1, h⟩ | ⟨h1, h2, h⟩ | ⟨h1, h2, h3, h⟩ | ⟨h1, h2, h3, h4, h⟩ | ⟨h1, h2, h3, h4, h⟩
  rotate_left 4
  · rw [h] at hi; cases hi
  all_goals clear h hi
  all_goals (
    go_enter Tryz.func84, Tryz.ntmps84
    go_wp2
    go_ret
    exact ⟨rfl, (((Below.refl _ w).alloc (Nat.le_refl _) _).alloc (by simp) _).alloc (by simp; omega) _⟩)

end Go.Proofs.YtiohpcnnpmnjhaaGreatDoor

namespace Go.Proofs.YtiohpcnnpmnjhaaGreatDoor
open Go.RowKit
set_option linter.unusedVariables false

set_option maxRecDepth 100000 in
set_option maxHeartbeats 1600000 in
theorem linked_N1 (s p dx dy ax ay oa bx yb ob d e x1 y1 x2 y2 : Int) (w : World) (hd : IntKind.i64.wrap (ax - bx) = d) (he : IntKind.i64.wrap (ay - yb) = e) (hx1 : IntKind.i64.wrap (ax + dx) = x1) (hy1 : IntKind.i64.wrap (ay + dy) = y1) (hx2 : IntKind.i64.wrap (bx + dx) = x2) (hy2 : IntKind.i64.wrap (yb + dy) = y2) (hp : 2 ≤ p) (hp1 : p ≤ 1000) :
    Calls Tryz.prog 84 #[.agg #[.int .i64 0, .int .i64 ax, .int .i64 ay, .int .i64 oa], .agg #[.int .i64 p, .int .i64 bx, .int .i64 yb, .int .i64 ob], .agg #[.int .i64 s, .int .i64 p, .int .i64 dx, .int .i64 dy]] w (LinkOut (decide (x1 = bx) && decide (y1 = yb)) w) := by
  have n0 : ¬ (0 : Int) = p := by omega
  have m0 := ne_b n0
  have n1 : ¬ (0 : Int) = p + 1 := by omega
  have m1 := ne_b n1
  have n2 : ¬ p = 1 := by omega
  have m2 := ne_b n2
  all_goals rcases two_cases x1 bx y1 yb with ⟨e1, f1, e0⟩ | ⟨e1, f1, e2, f2, e0⟩ | ⟨e1, f1, e2, f2, e0⟩
  all_goals (
    rw [e0]; clear e0; first | (subst e1 e2) | (subst e1) | skip
    go_enter Tryz.func84, Tryz.ntmps84
    go_wp2
    go_ret
    exact ⟨rfl, (((Below.refl _ w).alloc (Nat.le_refl _) _).alloc (by simp) _).alloc (by simp; omega) _⟩)

set_option maxRecDepth 100000 in
set_option maxHeartbeats 1600000 in
theorem linked_N2 (s p dx dy ax ay oa bx yb ob d e x1 y1 x2 y2 : Int) (w : World) (hd : IntKind.i64.wrap (ax - bx) = d) (he : IntKind.i64.wrap (ay - yb) = e) (hx1 : IntKind.i64.wrap (ax + dx) = x1) (hy1 : IntKind.i64.wrap (ay + dy) = y1) (hx2 : IntKind.i64.wrap (bx + dx) = x2) (hy2 : IntKind.i64.wrap (yb + dy) = y2) (hp : 2 ≤ p) (hp1 : p ≤ 1000) :
    Calls Tryz.prog 84 #[.agg #[.int .i64 p, .int .i64 ax, .int .i64 ay, .int .i64 oa], .agg #[.int .i64 0, .int .i64 bx, .int .i64 yb, .int .i64 ob], .agg #[.int .i64 s, .int .i64 p, .int .i64 dx, .int .i64 dy]] w (LinkOut (decide (x2 = ax) && decide (y2 = ay)) w) := by
  have n0 : ¬ p = 0 := by omega
  have m0 := ne_b n0
  have n1 : ¬ p = 1 := by omega
  have m1 := ne_b n1
  have n2 : ¬ (0 : Int) = p + 1 := by omega
  have m2 := ne_b n2
  all_goals rcases two_cases x2 ax y2 ay with ⟨e1, f1, e0⟩ | ⟨e1, f1, e2, f2, e0⟩ | ⟨e1, f1, e2, f2, e0⟩
  all_goals (
    rw [e0]; clear e0; first | (subst e1 e2) | (subst e1) | skip
    go_enter Tryz.func84, Tryz.ntmps84
    go_wp2
    go_ret
    exact ⟨rfl, (((Below.refl _ w).alloc (Nat.le_refl _) _).alloc (by simp) _).alloc (by simp; omega) _⟩)

set_option maxRecDepth 100000 in
set_option maxHeartbeats 1600000 in
theorem linked_N0 (s p ta tb dx dy ax ay oa bx yb ob d e x1 y1 x2 y2 : Int) (w : World) (hd : IntKind.i64.wrap (ax - bx) = d) (he : IntKind.i64.wrap (ay - yb) = e) (hx1 : IntKind.i64.wrap (ax + dx) = x1) (hy1 : IntKind.i64.wrap (ay + dy) = y1) (hx2 : IntKind.i64.wrap (bx + dx) = x2) (hy2 : IntKind.i64.wrap (yb + dy) = y2) (hp : 1 ≤ p) (ha0 : 0 ≤ ta) (ha1 : ta ≤ 1000) (hb0 : 0 ≤ tb) (hb1 : tb ≤ 1000) (h0 : ¬ ta = tb) (h01 : ¬ ta = tb + 1) (h02 : ¬ tb = ta + 1) (hn : ¬ (ta = 0 ∧ tb = p)) (hn' : ¬ (tb = 0 ∧ ta = p)) :
    Calls Tryz.prog 84 #[.agg #[.int .i64 ta, .int .i64 ax, .int .i64 ay, .int .i64 oa], .agg #[.int .i64 tb, .int .i64 bx, .int .i64 yb, .int .i64 ob], .agg #[.int .i64 s, .int .i64 p, .int .i64 dx, .int .i64 dy]] w (LinkOut (false) w) := by
  have m1 := ne_b h0; have m2 := ne_b h01; have m3 := ne_b h02
  by_cases u : ta = 0
  · subst u
    have v : ¬ tb = p := fun hh => hn ⟨rfl, hh⟩
    have v' := ne_b v
    have z : ¬ tb = 0 := fun hh => h0 hh.symm
    have z' := ne_b z
    have n7 : ¬ tb = 1 := by omega
    have m7 := ne_b n7
    clear hn hn' h02 m3
    (
    go_enter Tryz.func84, Tryz.ntmps84
    go_wp2
    go_ret
    exact ⟨rfl, (((Below.refl _ w).alloc (Nat.le_refl _) _).alloc (by simp) _).alloc (by simp; omega) _⟩)
  · have u2 := ne_b u
    by_cases u' : tb = 0
    · subst u'
      have z : ¬ ta = p := fun hh => hn' ⟨rfl, hh⟩
      have z' := ne_b z
      have n7 : ¬ ta = 1 := by omega
      have m7 := ne_b n7
      clear hn hn' h01 m2
      (
      go_enter Tryz.func84, Tryz.ntmps84
      go_wp2
      go_ret
      exact ⟨rfl, (((Below.refl _ w).alloc (Nat.le_refl _) _).alloc (by simp) _).alloc (by simp; omega) _⟩)
    · have u3 := ne_b u'
      clear hn hn'
      (
      go_enter Tryz.func84, Tryz.ntmps84
      go_wp2
      go_ret
      exact ⟨rfl, (((Below.refl _ w).alloc (Nat.le_refl _) _).alloc (by simp) _).alloc (by simp; omega) _⟩)

end Go.Proofs.YtiohpcnnpmnjhaaGreatDoor

namespace Go.Proofs.YtiohpcnnpmnjhaaGreatDoor
open Go.RowKit
set_option linter.unusedVariables false

/-- Linked, whole. -/
theorem linked_any (s p dx dy ta ax ay oa tb bx yb ob : Int) (w : World) (hp : 1 ≤ p ∧ p ≤ 1000) (ha : 0 ≤ ta ∧ ta ≤ 1000) (hb : 0 ≤ tb ∧ tb ≤ 1000) (hax : -4000000000000000000 ≤ ax ∧ ax ≤ 4000000000000000000) (hay : -4000000000000000000 ≤ ay ∧ ay ≤ 4000000000000000000) (hbx : -4000000000000000000 ≤ bx ∧ bx ≤ 4000000000000000000) (hby : -4000000000000000000 ≤ yb ∧ yb ≤ 4000000000000000000) (hdx : -1000 ≤ dx ∧ dx ≤ 1000) (hdy : -1000 ≤ dy ∧ dy ≤ 1000) :
    Calls Tryz.prog 84 #[.agg #[.int .i64 ta, .int .i64 ax, .int .i64 ay, .int .i64 oa], .agg #[.int .i64 tb, .int .i64 bx, .int .i64 yb, .int .i64 ob], .agg #[.int .i64 s, .int .i64 p, .int .i64 dx, .int .i64 dy]] w (LinkOut (lkB p dx dy ta ax ay tb bx yb) w) := by
  have hd : IntKind.i64.wrap (ax - bx) = ax - bx := IntWalk.i64_in _ ⟨by omega, by omega⟩
  have he : IntKind.i64.wrap (ay - yb) = ay - yb := IntWalk.i64_in _ ⟨by omega, by omega⟩
  have hx1 : IntKind.i64.wrap (ax + dx) = ax + dx := IntWalk.i64_in _ ⟨by omega, by omega⟩
  have hy1 : IntKind.i64.wrap (ay + dy) = ay + dy := IntWalk.i64_in _ ⟨by omega, by omega⟩
  have hx2 : IntKind.i64.wrap (bx + dx) = bx + dx := IntWalk.i64_in _ ⟨by omega, by omega⟩
  have hy2 : IntKind.i64.wrap (yb + dy) = yb + dy := IntWalk.i64_in _ ⟨by omega, by omega⟩
  unfold lkB
  by_cases h0 : ta = tb
  · subst h0
    rw [if_pos rfl]
    exact linked_same s p dx dy ta ax ay oa bx yb ob _ _ w hd he
  rw [if_neg h0]
  by_cases hA : ta = tb + 1
  · cases hi : inB 1 (ax - bx) (ay - yb) with
    | true =>
      rw [if_pos ⟨.inl hA, rfl⟩]
      exact linked_turnA s p dx dy ta ax ay oa tb bx yb ob _ _ _ _ _ _ w hd he hx1 hy1 hx2 hy2 (by omega) (by omega) (by omega) (by omega) (by omega) hA hi
    | false =>
      rw [if_neg (fun h => Bool.noConfusion h.2), if_neg (by omega)]
      by_cases ht : tb = 0
      · subst ht
        obtain rfl : ta = 1 := by omega
        by_cases h1 : p = 1
        · subst h1
          rw [if_pos ⟨rfl, rfl⟩]
          exact linked_A2 s dx dy ax ay oa bx yb ob _ _ _ _ _ _ w hd he hx1 hy1 hx2 hy2 hi
        · rw [if_neg (by omega)]
          exact linked_A00 s p dx dy ax ay oa bx yb ob _ _ _ _ _ _ w hd he hx1 hy1 hx2 hy2 hi (by omega)
      · rw [if_neg (by omega)]
        subst hA
        exact linked_A01 s p tb dx dy ax ay oa bx yb ob _ _ _ _ _ _ w hd he hx1 hy1 hx2 hy2 hi (by omega) (by omega) (by omega)
  by_cases hB : tb = ta + 1
  · cases hi : inB 1 (ax - bx) (ay - yb) with
    | true =>
      rw [if_pos ⟨.inr hB, rfl⟩]
      exact linked_turnB s p dx dy ta ax ay oa tb bx yb ob _ _ _ _ _ _ w hd he hx1 hy1 hx2 hy2 (by omega) (by omega) (by omega) (by omega) (by omega) hB hi
    | false =>
      rw [if_neg (fun h => Bool.noConfusion h.2)]
      by_cases ht : ta = 0
      · subst ht
        obtain rfl : tb = 1 := by omega
        by_cases h1 : p = 1
        · subst h1
          rw [if_pos ⟨rfl, rfl⟩]
          exact linked_B1 s dx dy ax ay oa bx yb ob _ _ _ _ _ _ w hd he hx1 hy1 hx2 hy2 hi
        · rw [if_neg (by omega), if_neg (by omega)]
          exact linked_B00 s p dx dy ax ay oa bx yb ob _ _ _ _ _ _ w hd he hx1 hy1 hx2 hy2 hi (by omega)
      · rw [if_neg (by omega), if_neg (by omega)]
        subst hB
        exact linked_B01 s p ta dx dy ax ay oa bx yb ob _ _ _ _ _ _ w hd he hx1 hy1 hx2 hy2 hi (by omega) (by omega) (by omega)
  rw [if_neg (fun h => h.1.elim hA hB)]
  by_cases hn : ta = 0 ∧ tb = p
  · rw [if_pos hn]
    obtain ⟨rfl, rfl⟩ := hn
    exact linked_N1 s tb dx dy ax ay oa bx yb ob _ _ _ _ _ _ w hd he hx1 hy1 hx2 hy2 (by omega) (by omega)
  rw [if_neg hn]
  by_cases hn' : tb = 0 ∧ ta = p
  · rw [if_pos hn']
    obtain ⟨rfl, rfl⟩ := hn'
    exact linked_N2 s ta dx dy ax ay oa bx yb ob _ _ _ _ _ _ w hd he hx1 hy1 hx2 hy2 (by omega) (by omega)
  rw [if_neg hn']
  exact linked_N0 s p ta tb dx dy ax ay oa bx yb ob _ _ _ _ _ _ w hd he hx1 hy1 hx2 hy2 (by omega) (by omega) (by omega) (by omega) (by omega) h0 hA hB hn hn'

/-- The spots in a block: each with its place and whose it is. -/
def SpotsAt (W : World) (L : Nat) (sp : List (Nat × Cel)) (of : Nat → Int) : Prop := ∃ cur, W.heap[L]? = some (.cells cur 104 (0, 0)) ∧ ∀ (j t : Nat) (c : Cel), sp[j]? = some (t, c) → cur[j * 4]? = some (.int .i64 (t : Int)) ∧ cur[j * 4 + 1]? = some (.int .i64 c.1) ∧ cur[j * 4 + 2]? = some (.int .i64 c.2) ∧ cur[j * 4 + 3]? = some (.int .i64 (of j))
theorem SpotsAt.lt {W : World} {L : Nat} {sp : List (Nat × Cel)} {of : Nat → Int} (h : SpotsAt W L sp of) : L < W.heap.size := by obtain ⟨cur, h1, _⟩ := h; exact (Array.getElem?_eq_some_iff.1 h1).1
theorem SpotsAt.keep {W W' : World} {L : Nat} {sp : List (Nat × Cel)} {of : Nat → Int} (h : SpotsAt W L sp of) (hb : W'.heap[L]? = W.heap[L]?) : SpotsAt W' L sp of := by
  obtain ⟨cur, h1, h2⟩ := h
  exact ⟨cur, hb.trans h1, h2⟩
theorem SpotsAt.get {W : World} {L : Nat} {sp : List (Nat × Cel)} {of : Nat → Int} (h : SpotsAt W L sp of) {j t : Nat} {c : Cel} (hj : sp[j]? = some (t, c)) : W.cell? ⟨L, j * 4, none⟩ = some (.int .i64 (t : Int)) ∧ W.cell? ⟨L, j * 4 + 1, none⟩ = some (.int .i64 c.1) ∧ W.cell? ⟨L, j * 4 + 2, none⟩ = some (.int .i64 c.2) ∧ W.cell? ⟨L, j * 4 + 3, none⟩ = some (.int .i64 (of j)) := by
  obtain ⟨cur, h1, h2⟩ := h
  obtain ⟨a, b, c', d⟩ := h2 j t c hj
  refine ⟨?_, ?_, ?_, ?_⟩ <;> simp [World.cell?, *]
theorem SpotsAt.frz {W : World} {L : Nat} {sp : List (Nat × Cel)} {of : Nat → Int} (h : SpotsAt W L sp of) (i : Nat) : W.frozen? ⟨L, i, none⟩ = false := by
  obtain ⟨cur, h1, _⟩ := h
  exact frz_of h1 i
theorem SpotsAt.set {W : World} {L : Nat} {sp : List (Nat × Cel)} {of : Nat → Int} (h : SpotsAt W L sp of) {i t0 : Nat} {c0 : Cel} (hi : sp[i]? = some (t0, c0)) (z : Int) : SpotsAt (W.setCell ⟨L, i * 4 + 3, none⟩ (.int .i64 z)) L sp (fun j => if j = i then z else of j) := by
  obtain ⟨cur, h1, h2⟩ := h
  have hb := blk_put (j := i * 4 + 3) h1 (.int .i64 z)
  refine ⟨_, hb, fun j t c hj => ?_⟩
  obtain ⟨a, b, c', d⟩ := h2 j t c hj
  have hsz : i * 4 + 3 < cur.size := (Array.getElem?_eq_some_iff.1 (h2 i t0 c0 hi).2.2.2).1
  have ne : ∀ m, m ≠ i * 4 + 3 → (cur.setIfInBounds (i * 4 + 3) (.int .i64 z))[m]? = cur[m]? := fun m hm => by
    rw [Array.getElem?_setIfInBounds]
    rw [if_neg (fun e => hm e.symm)]
  refine ⟨by rw [ne _ (by omega)]; exact a, by rw [ne _ (by omega)]; exact b, by rw [ne _ (by omega)]; exact c', ?_⟩
  simp only
  by_cases e : j = i
  · subst e
    rw [if_pos rfl, Array.getElem?_setIfInBounds]
    simp [hsz]
  · rw [if_neg e, ne _ (by omega)]
    exact d

end Go.Proofs.YtiohpcnnpmnjhaaGreatDoor
