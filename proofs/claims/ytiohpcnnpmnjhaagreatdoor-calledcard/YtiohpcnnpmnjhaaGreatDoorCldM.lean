import Derived.Test.YtiohpcnnpmnjhaaGreatDoorNamed
import Derived.Test.YtiohpcnnpmnjhaaGreatDoorCodeS
import Derived.Test.YtiohpcnnpmnjhaaGreatDoorTurnFine
namespace Go.Proofs.YtiohpcnnpmnjhaaGreatDoor
open Go.RowKit Go.Shelf
set_option linter.unusedVariables false

set_option maxRecDepth 100000 in
set_option maxHeartbeats 1600000 in
theorem called_bad (rule text  : ByteArray) (n way dx dy k1 i1 io : Int) (y1 y2 y3 y4 : Int) (w : World) (ht : Tab w.heap.size w) (hT : TurnTab w)
    (hC1 : ∀ w, Tab w.heap.size w → TurnTab w → Calls Tryz.prog 33 #[.string rule, .string text] w fun e w' => e = .returned (.tuple #[.string ⟨#[]⟩, .int .i64 k1, .int .i64 i1]) ∧ Below w.heap.size w w')
    (hO : ∀ w, Calls Tryz.prog 20 #[.string rule, .string text] w fun e w' => e = .returned (.tuple #[.agg #[.int .i64 y1, .int .i64 y2, .int .i64 y3, .int .i64 y4], .int .i64 k1, .int .i64 io]) ∧ Below w.heap.size w w')
    (hk : k1 ≠ 0) :
    Calls Tryz.prog 10 #[.string rule, .string text, .int .i64 n, .int .i64 way, .int .i64 dx, .int .i64 dy] w fun e w' => e = .returned (.bool true) ∧ Below w.heap.size w w' := by
  have z0 : (k1 == 0) = false := by simpa using hk
  go_enter Tryz.func10, Tryz.ntmps10
  go_wp2_with (first
    | (go_at_call 31; refine (named_any w ht hT).mono ?_; rintro e w0 ⟨rfl, b0⟩)
    | (go_at_call 33; first
        | (with_reducible refine (hC1 _ (tab_up ht b0 b0.size) (hT.on b0 (Nat.le_refl _))).mono ?_; rintro e w1 ⟨rfl, c⟩; have b1 := b0.trans (c.mono b0.size); clear c))
    | (go_at_call 20; refine (hO _).mono ?_; rintro e w2 ⟨rfl, c⟩; have b2 := (b1.trans (c.mono b1.size)).alloc (b1.trans (c.mono b1.size)).size (.cells #[.int .i64 y1, .int .i64 y2, .int .i64 y3, .int .i64 y4] 37); clear c)
    | (go_at_call 14; refine (num_any _ _).mono ?_; rintro e wk ⟨rfl, rfl⟩)
    | (go_at_call 18; refine (known_any _ _).mono ?_; rintro e wk ⟨rfl, rfl⟩))
  go_ret
  exact ⟨rfl, b2⟩

set_option maxRecDepth 100000 in
set_option maxHeartbeats 1600000 in
theorem called_long (rule text s s2 : ByteArray) (n way dx dy i1 io i2 : Int) (y1 y2 y3 y4 : Int) (w : World) (ht : Tab w.heap.size w) (hT : TurnTab w)
    (hC1 : ∀ w, Tab w.heap.size w → TurnTab w → Calls Tryz.prog 33 #[.string rule, .string text] w fun e w' => e = .returned (.tuple #[.string s, .int .i64 0, .int .i64 i1]) ∧ Below w.heap.size w w')
    (hO : ∀ w, Calls Tryz.prog 20 #[.string rule, .string text] w fun e w' => e = .returned (.tuple #[.agg #[.int .i64 y1, .int .i64 y2, .int .i64 y3, .int .i64 y4], .int .i64 0, .int .i64 io]) ∧ Below w.heap.size w w')
    (hC2 : ∀ w, Tab w.heap.size w → TurnTab w → Calls Tryz.prog 33 #[.string rule, .string s] w fun e w' => e = .returned (.tuple #[.string s2, .int .i64 1, .int .i64 i2]) ∧ Below w.heap.size w w')
    (hs : s ≠ ⟨#[]⟩) (hl : 1500 < s.size) :
    Calls Tryz.prog 10 #[.string rule, .string text, .int .i64 n, .int .i64 way, .int .i64 dx, .int .i64 dy] w fun e w' => e = .returned (.bool true) ∧ Below w.heap.size w w' := by
  have hs3 : ¬ s.toList = [] := toList_ne hs
  have hs4 : s.toList.isEmpty = false := by simpa using hs3
  have z4 : decide ((1500 : Int) < (s.size : Int)) = true := decide_eq_true (by omega)
  go_enter Tryz.func10, Tryz.ntmps10
  go_wp2_with (first
    | (go_at_call 31; refine (named_any w ht hT).mono ?_; rintro e w0 ⟨rfl, b0⟩)
    | (go_at_call 33; first
        | (with_reducible refine (hC1 _ (tab_up ht b0 b0.size) (hT.on b0 (Nat.le_refl _))).mono ?_; rintro e w1 ⟨rfl, c⟩; have b1 := b0.trans (c.mono b0.size); clear c)
        | (with_reducible refine (hC2 _ (tab_up ht b2 b2.size) (hT.on b2 (Nat.le_refl _))).mono ?_; rintro e w3 ⟨rfl, c⟩; have b3 := b2.trans (c.mono b2.size); clear c))
    | (go_at_call 20; refine (hO _).mono ?_; rintro e w2 ⟨rfl, c⟩; have b2 := (b1.trans (c.mono b1.size)).alloc (b1.trans (c.mono b1.size)).size (.cells #[.int .i64 y1, .int .i64 y2, .int .i64 y3, .int .i64 y4] 37); clear c)
    | (go_at_call 14; refine (num_any _ _).mono ?_; rintro e wk ⟨rfl, rfl⟩)
    | (go_at_call 18; refine (known_any _ _).mono ?_; rintro e wk ⟨rfl, rfl⟩))
  go_ret
  exact ⟨rfl, b3⟩

set_option maxRecDepth 100000 in
set_option maxHeartbeats 1600000 in
theorem called_none (rule text s gs : ByteArray) (n way dx dy i1 io i2 kh ih kx ix : Int) (y1 y2 y3 y4 : Int) (w : World) (ht : Tab w.heap.size w) (hT : TurnTab w)
    (hC1 : ∀ w, Tab w.heap.size w → TurnTab w → Calls Tryz.prog 33 #[.string rule, .string text] w fun e w' => e = .returned (.tuple #[.string s, .int .i64 0, .int .i64 i1]) ∧ Below w.heap.size w w')
    (hO : ∀ w, Calls Tryz.prog 20 #[.string rule, .string text] w fun e w' => e = .returned (.tuple #[.agg #[.int .i64 y1, .int .i64 y2, .int .i64 y3, .int .i64 y4], .int .i64 0, .int .i64 io]) ∧ Below w.heap.size w w')
    (hC2 : ∀ w, Tab w.heap.size w → TurnTab w → Calls Tryz.prog 33 #[.string rule, .string s] w fun e w' => e = .returned (.tuple #[.string s, .int .i64 0, .int .i64 i2]) ∧ Below w.heap.size w w')
    (hS : ∀ w, Tab w.heap.size w → Calls Tryz.prog 12 #[.string rule, .string text, .int .i64 n] w fun e w' => e = .returned (.tuple #[.string gs, .int .i64 kh, .int .i64 ih]) ∧ Below w.heap.size w w')
    (hR : ∀ w, Calls Tryz.prog 22 #[.string gs] w fun e w' => (∃ v, e = .returned (.tuple #[v, .int .i64 kx, .int .i64 ix])) ∧ Below w.heap.size w w')
    (hs : s ≠ ⟨#[]⟩) (hl : s.size ≤ 1500) (hh : kh ≠ 0) :
    Calls Tryz.prog 10 #[.string rule, .string text, .int .i64 n, .int .i64 way, .int .i64 dx, .int .i64 dy] w fun e w' => e = .returned (.bool true) ∧ Below w.heap.size w w' := by
  have hs3 : ¬ s.toList = [] := toList_ne hs
  have hs4 : s.toList.isEmpty = false := by simpa using hs3
  have z4 : decide ((1500 : Int) < (s.size : Int)) = false := decide_eq_false (by omega)
  have z5 : (kh == 0) = false := by simpa using hh
  go_enter Tryz.func10, Tryz.ntmps10
  go_wp2_with (first
    | (go_at_call 31; refine (named_any w ht hT).mono ?_; rintro e w0 ⟨rfl, b0⟩)
    | (go_at_call 33; first
        | (with_reducible refine (hC1 _ (tab_up ht b0 b0.size) (hT.on b0 (Nat.le_refl _))).mono ?_; rintro e w1 ⟨rfl, c⟩; have b1 := b0.trans (c.mono b0.size); clear c)
        | (with_reducible refine (hC2 _ (tab_up ht b2 b2.size) (hT.on b2 (Nat.le_refl _))).mono ?_; rintro e w3 ⟨rfl, c⟩; have b3 := b2.trans (c.mono b2.size); clear c))
    | (go_at_call 20; refine (hO _).mono ?_; rintro e w2 ⟨rfl, c⟩; have b2 := (b1.trans (c.mono b1.size)).alloc (b1.trans (c.mono b1.size)).size (.cells #[.int .i64 y1, .int .i64 y2, .int .i64 y3, .int .i64 y4] 37); clear c)
    | (go_at_call 12; refine (hS _ (tab_up ht b3 b3.size)).mono ?_; rintro e w4 ⟨rfl, c⟩; have b4 := b3.trans (c.mono b3.size); clear c)
    | (go_at_call 22; refine (hR _).mono ?_; rintro e w5 ⟨⟨v, rfl⟩, c⟩; have b5 := b4.trans (c.mono b4.size); clear c)
    | (go_at_call 14; refine (num_any _ _).mono ?_; rintro e wk ⟨rfl, rfl⟩)
    | (go_at_call 18; refine (known_any _ _).mono ?_; rintro e wk ⟨rfl, rfl⟩))
  go_ret
  exact ⟨rfl, b5⟩

set_option maxRecDepth 100000 in
set_option maxHeartbeats 1600000 in
theorem called_unread (rule text s gs : ByteArray) (n way dx dy i1 io i2 ih kx ix : Int) (y1 y2 y3 y4 : Int) (w : World) (ht : Tab w.heap.size w) (hT : TurnTab w)
    (hC1 : ∀ w, Tab w.heap.size w → TurnTab w → Calls Tryz.prog 33 #[.string rule, .string text] w fun e w' => e = .returned (.tuple #[.string s, .int .i64 0, .int .i64 i1]) ∧ Below w.heap.size w w')
    (hO : ∀ w, Calls Tryz.prog 20 #[.string rule, .string text] w fun e w' => e = .returned (.tuple #[.agg #[.int .i64 y1, .int .i64 y2, .int .i64 y3, .int .i64 y4], .int .i64 0, .int .i64 io]) ∧ Below w.heap.size w w')
    (hC2 : ∀ w, Tab w.heap.size w → TurnTab w → Calls Tryz.prog 33 #[.string rule, .string s] w fun e w' => e = .returned (.tuple #[.string s, .int .i64 0, .int .i64 i2]) ∧ Below w.heap.size w w')
    (hS : ∀ w, Tab w.heap.size w → Calls Tryz.prog 12 #[.string rule, .string text, .int .i64 n] w fun e w' => e = .returned (.tuple #[.string gs, .int .i64 0, .int .i64 ih]) ∧ Below w.heap.size w w')
    (hR : ∀ w, Calls Tryz.prog 22 #[.string gs] w fun e w' => (∃ v, e = .returned (.tuple #[v, .int .i64 kx, .int .i64 ix])) ∧ Below w.heap.size w w')
    (hs : s ≠ ⟨#[]⟩) (hl : s.size ≤ 1500) (hx : kx ≠ 0) :
    Calls Tryz.prog 10 #[.string rule, .string text, .int .i64 n, .int .i64 way, .int .i64 dx, .int .i64 dy] w fun e w' => e = .returned (.bool true) ∧ Below w.heap.size w w' := by
  have hs3 : ¬ s.toList = [] := toList_ne hs
  have hs4 : s.toList.isEmpty = false := by simpa using hs3
  have z4 : decide ((1500 : Int) < (s.size : Int)) = false := decide_eq_false (by omega)
  have z5 : (kx == 0) = false := by simpa using hx
  have z6 : (kx != 0) = true := by simpa using hx
  go_enter Tryz.func10, Tryz.ntmps10
  go_wp2_with (first
    | (go_at_call 31; refine (named_any w ht hT).mono ?_; rintro e w0 ⟨rfl, b0⟩)
    | (go_at_call 33; first
        | (with_reducible refine (hC1 _ (tab_up ht b0 b0.size) (hT.on b0 (Nat.le_refl _))).mono ?_; rintro e w1 ⟨rfl, c⟩; have b1 := b0.trans (c.mono b0.size); clear c)
        | (with_reducible refine (hC2 _ (tab_up ht b2 b2.size) (hT.on b2 (Nat.le_refl _))).mono ?_; rintro e w3 ⟨rfl, c⟩; have b3 := b2.trans (c.mono b2.size); clear c))
    | (go_at_call 20; refine (hO _).mono ?_; rintro e w2 ⟨rfl, c⟩; have b2 := (b1.trans (c.mono b1.size)).alloc (b1.trans (c.mono b1.size)).size (.cells #[.int .i64 y1, .int .i64 y2, .int .i64 y3, .int .i64 y4] 37); clear c)
    | (go_at_call 12; refine (hS _ (tab_up ht b3 b3.size)).mono ?_; rintro e w4 ⟨rfl, c⟩; have b4 := b3.trans (c.mono b3.size); clear c)
    | (go_at_call 22; refine (hR _).mono ?_; rintro e w5 ⟨⟨v, rfl⟩, c⟩; have b5 := b4.trans (c.mono b4.size); clear c)
    | (go_at_call 14; refine (num_any _ _).mono ?_; rintro e wk ⟨rfl, rfl⟩)
    | (go_at_call 18; refine (known_any _ _).mono ?_; rintro e wk ⟨rfl, rfl⟩))
  go_ret
  exact ⟨rfl, b5⟩

set_option maxRecDepth 100000 in
set_option maxHeartbeats 6400000 in
theorem called_out (rule text s gs : ByteArray) (n way dx dy i1 io i2 ih ix : Int) (y1 y2 y3 y4 : Int) (w : World) (ht : Tab w.heap.size w) (hT : TurnTab w)
    (hC1 : ∀ w, Tab w.heap.size w → TurnTab w → Calls Tryz.prog 33 #[.string rule, .string text] w fun e w' => e = .returned (.tuple #[.string s, .int .i64 0, .int .i64 i1]) ∧ Below w.heap.size w w')
    (hO : ∀ w, Calls Tryz.prog 20 #[.string rule, .string text] w fun e w' => e = .returned (.tuple #[.agg #[.int .i64 y1, .int .i64 y2, .int .i64 y3, .int .i64 y4], .int .i64 0, .int .i64 io]) ∧ Below w.heap.size w w')
    (hC2 : ∀ w, Tab w.heap.size w → TurnTab w → Calls Tryz.prog 33 #[.string rule, .string s] w fun e w' => e = .returned (.tuple #[.string s, .int .i64 0, .int .i64 i2]) ∧ Below w.heap.size w w')
    (hS : ∀ w, Tab w.heap.size w → Calls Tryz.prog 12 #[.string rule, .string text, .int .i64 n] w fun e w' => e = .returned (.tuple #[.string gs, .int .i64 0, .int .i64 ih]) ∧ Below w.heap.size w w')
    (hR : ∀ w, Calls Tryz.prog 22 #[.string gs] w fun e w' => (∃ v, e = .returned (.tuple #[v, .int .i64 0, .int .i64 ix])) ∧ Below w.heap.size w w')
    (hs : s ≠ ⟨#[]⟩) (hl : s.size ≤ 1500) (hq : way < 0 ∨ 7 < way ∨ dx < -1000 ∨ 1000 < dx ∨ dy < -1000 ∨ 1000 < dy) :
    Calls Tryz.prog 10 #[.string rule, .string text, .int .i64 n, .int .i64 way, .int .i64 dx, .int .i64 dy] w fun e w' => e = .returned (.bool true) ∧ Below w.heap.size w w' := by
  have hs3 : ¬ s.toList = [] := toList_ne hs
  have hs4 : s.toList.isEmpty = false := by simpa using hs3
  have z4 : decide ((1500 : Int) < (s.size : Int)) = false := decide_eq_false (by omega)
  by_cases q0 : way < 0
  · have yy0 : decide (way < 0) = true := decide_eq_true q0
    go_enter Tryz.func10, Tryz.ntmps10
    go_wp2_with (first
      | (go_at_call 31; refine (named_any w ht hT).mono ?_; rintro e w0 ⟨rfl, b0⟩)
      | (go_at_call 33; first
        | (with_reducible refine (hC1 _ (tab_up ht b0 b0.size) (hT.on b0 (Nat.le_refl _))).mono ?_; rintro e w1 ⟨rfl, c⟩; have b1 := b0.trans (c.mono b0.size); clear c)
        | (with_reducible refine (hC2 _ (tab_up ht b2 b2.size) (hT.on b2 (Nat.le_refl _))).mono ?_; rintro e w3 ⟨rfl, c⟩; have b3 := b2.trans (c.mono b2.size); clear c))
      | (go_at_call 20; refine (hO _).mono ?_; rintro e w2 ⟨rfl, c⟩; have b2 := (b1.trans (c.mono b1.size)).alloc (b1.trans (c.mono b1.size)).size (.cells #[.int .i64 y1, .int .i64 y2, .int .i64 y3, .int .i64 y4] 37); clear c)
      | (go_at_call 12; refine (hS _ (tab_up ht b3 b3.size)).mono ?_; rintro e w4 ⟨rfl, c⟩; have b4 := b3.trans (c.mono b3.size); clear c)
      | (go_at_call 22; refine (hR _).mono ?_; rintro e w5 ⟨⟨v, rfl⟩, c⟩; have b5 := b4.trans (c.mono b4.size); clear c)
      | (go_at_call 14; refine (num_any _ _).mono ?_; rintro e wk ⟨rfl, rfl⟩)
      | (go_at_call 18; refine (known_any _ _).mono ?_; rintro e wk ⟨rfl, rfl⟩))
    go_ret
    exact ⟨rfl, b5⟩
  have yy0 : decide (way < 0) = false := decide_eq_false q0
  by_cases q1 : 7 < way
  · have yy1 : decide (7 < way) = true := decide_eq_true q1
    go_enter Tryz.func10, Tryz.ntmps10
    go_wp2_with (first
      | (go_at_call 31; refine (named_any w ht hT).mono ?_; rintro e w0 ⟨rfl, b0⟩)
      | (go_at_call 33; first
        | (with_reducible refine (hC1 _ (tab_up ht b0 b0.size) (hT.on b0 (Nat.le_refl _))).mono ?_; rintro e w1 ⟨rfl, c⟩; have b1 := b0.trans (c.mono b0.size); clear c)
        | (with_reducible refine (hC2 _ (tab_up ht b2 b2.size) (hT.on b2 (Nat.le_refl _))).mono ?_; rintro e w3 ⟨rfl, c⟩; have b3 := b2.trans (c.mono b2.size); clear c))
      | (go_at_call 20; refine (hO _).mono ?_; rintro e w2 ⟨rfl, c⟩; have b2 := (b1.trans (c.mono b1.size)).alloc (b1.trans (c.mono b1.size)).size (.cells #[.int .i64 y1, .int .i64 y2, .int .i64 y3, .int .i64 y4] 37); clear c)
      | (go_at_call 12; refine (hS _ (tab_up ht b3 b3.size)).mono ?_; rintro e w4 ⟨rfl, c⟩; have b4 := b3.trans (c.mono b3.size); clear c)
      | (go_at_call 22; refine (hR _).mono ?_; rintro e w5 ⟨⟨v, rfl⟩, c⟩; have b5 := b4.trans (c.mono b4.size); clear c)
      | (go_at_call 14; refine (num_any _ _).mono ?_; rintro e wk ⟨rfl, rfl⟩)
      | (go_at_call 18; refine (known_any _ _).mono ?_; rintro e wk ⟨rfl, rfl⟩))
    go_ret
    exact ⟨rfl, b5⟩
  have yy1 : decide (7 < way) = false := decide_eq_false q1
  by_cases q2 : dx < -1000
  · have yy2 : decide (dx < -1000) = true := decide_eq_true q2
    go_enter Tryz.func10, Tryz.ntmps10
    go_wp2_with (first
      | (go_at_call 31; refine (named_any w ht hT).mono ?_; rintro e w0 ⟨rfl, b0⟩)
      | (go_at_call 33; first
        | (with_reducible refine (hC1 _ (tab_up ht b0 b0.size) (hT.on b0 (Nat.le_refl _))).mono ?_; rintro e w1 ⟨rfl, c⟩; have b1 := b0.trans (c.mono b0.size); clear c)
        | (with_reducible refine (hC2 _ (tab_up ht b2 b2.size) (hT.on b2 (Nat.le_refl _))).mono ?_; rintro e w3 ⟨rfl, c⟩; have b3 := b2.trans (c.mono b2.size); clear c))
      | (go_at_call 20; refine (hO _).mono ?_; rintro e w2 ⟨rfl, c⟩; have b2 := (b1.trans (c.mono b1.size)).alloc (b1.trans (c.mono b1.size)).size (.cells #[.int .i64 y1, .int .i64 y2, .int .i64 y3, .int .i64 y4] 37); clear c)
      | (go_at_call 12; refine (hS _ (tab_up ht b3 b3.size)).mono ?_; rintro e w4 ⟨rfl, c⟩; have b4 := b3.trans (c.mono b3.size); clear c)
      | (go_at_call 22; refine (hR _).mono ?_; rintro e w5 ⟨⟨v, rfl⟩, c⟩; have b5 := b4.trans (c.mono b4.size); clear c)
      | (go_at_call 14; refine (num_any _ _).mono ?_; rintro e wk ⟨rfl, rfl⟩)
      | (go_at_call 18; refine (known_any _ _).mono ?_; rintro e wk ⟨rfl, rfl⟩))
    go_ret
    exact ⟨rfl, b5⟩
  have yy2 : decide (dx < -1000) = false := decide_eq_false q2
  by_cases q3 : 1000 < dx
  · have yy3 : decide (1000 < dx) = true := decide_eq_true q3
    go_enter Tryz.func10, Tryz.ntmps10
    go_wp2_with (first
      | (go_at_call 31; refine (named_any w ht hT).mono ?_; rintro e w0 ⟨rfl, b0⟩)
      | (go_at_call 33; first
        | (with_reducible refine (hC1 _ (tab_up ht b0 b0.size) (hT.on b0 (Nat.le_refl _))).mono ?_; rintro e w1 ⟨rfl, c⟩; have b1 := b0.trans (c.mono b0.size); clear c)
        | (with_reducible refine (hC2 _ (tab_up ht b2 b2.size) (hT.on b2 (Nat.le_refl _))).mono ?_; rintro e w3 ⟨rfl, c⟩; have b3 := b2.trans (c.mono b2.size); clear c))
      | (go_at_call 20; refine (hO _).mono ?_; rintro e w2 ⟨rfl, c⟩; have b2 := (b1.trans (c.mono b1.size)).alloc (b1.trans (c.mono b1.size)).size (.cells #[.int .i64 y1, .int .i64 y2, .int .i64 y3, .int .i64 y4] 37); clear c)
      | (go_at_call 12; refine (hS _ (tab_up ht b3 b3.size)).mono ?_; rintro e w4 ⟨rfl, c⟩; have b4 := b3.trans (c.mono b3.size); clear c)
      | (go_at_call 22; refine (hR _).mono ?_; rintro e w5 ⟨⟨v, rfl⟩, c⟩; have b5 := b4.trans (c.mono b4.size); clear c)
      | (go_at_call 14; refine (num_any _ _).mono ?_; rintro e wk ⟨rfl, rfl⟩)
      | (go_at_call 18; refine (known_any _ _).mono ?_; rintro e wk ⟨rfl, rfl⟩))
    go_ret
    exact ⟨rfl, b5⟩
  have yy3 : decide (1000 < dx) = false := decide_eq_false q3
  by_cases q4 : dy < -1000
  · have yy4 : decide (dy < -1000) = true := decide_eq_true q4
    go_enter Tryz.func10, Tryz.ntmps10
    go_wp2_with (first
      | (go_at_call 31; refine (named_any w ht hT).mono ?_; rintro e w0 ⟨rfl, b0⟩)
      | (go_at_call 33; first
        | (with_reducible refine (hC1 _ (tab_up ht b0 b0.size) (hT.on b0 (Nat.le_refl _))).mono ?_; rintro e w1 ⟨rfl, c⟩; have b1 := b0.trans (c.mono b0.size); clear c)
        | (with_reducible refine (hC2 _ (tab_up ht b2 b2.size) (hT.on b2 (Nat.le_refl _))).mono ?_; rintro e w3 ⟨rfl, c⟩; have b3 := b2.trans (c.mono b2.size); clear c))
      | (go_at_call 20; refine (hO _).mono ?_; rintro e w2 ⟨rfl, c⟩; have b2 := (b1.trans (c.mono b1.size)).alloc (b1.trans (c.mono b1.size)).size (.cells #[.int .i64 y1, .int .i64 y2, .int .i64 y3, .int .i64 y4] 37); clear c)
      | (go_at_call 12; refine (hS _ (tab_up ht b3 b3.size)).mono ?_; rintro e w4 ⟨rfl, c⟩; have b4 := b3.trans (c.mono b3.size); clear c)
      | (go_at_call 22; refine (hR _).mono ?_; rintro e w5 ⟨⟨v, rfl⟩, c⟩; have b5 := b4.trans (c.mono b4.size); clear c)
      | (go_at_call 14; refine (num_any _ _).mono ?_; rintro e wk ⟨rfl, rfl⟩)
      | (go_at_call 18; refine (known_any _ _).mono ?_; rintro e wk ⟨rfl, rfl⟩))
    go_ret
    exact ⟨rfl, b5⟩
  have yy4 : decide (dy < -1000) = false := decide_eq_false q4
  by_cases q5 : 1000 < dy
  · have yy5 : decide (1000 < dy) = true := decide_eq_true q5
    go_enter Tryz.func10, Tryz.ntmps10
    go_wp2_with (first
      | (go_at_call 31; refine (named_any w ht hT).mono ?_; rintro e w0 ⟨rfl, b0⟩)
      | (go_at_call 33; first
        | (with_reducible refine (hC1 _ (tab_up ht b0 b0.size) (hT.on b0 (Nat.le_refl _))).mono ?_; rintro e w1 ⟨rfl, c⟩; have b1 := b0.trans (c.mono b0.size); clear c)
        | (with_reducible refine (hC2 _ (tab_up ht b2 b2.size) (hT.on b2 (Nat.le_refl _))).mono ?_; rintro e w3 ⟨rfl, c⟩; have b3 := b2.trans (c.mono b2.size); clear c))
      | (go_at_call 20; refine (hO _).mono ?_; rintro e w2 ⟨rfl, c⟩; have b2 := (b1.trans (c.mono b1.size)).alloc (b1.trans (c.mono b1.size)).size (.cells #[.int .i64 y1, .int .i64 y2, .int .i64 y3, .int .i64 y4] 37); clear c)
      | (go_at_call 12; refine (hS _ (tab_up ht b3 b3.size)).mono ?_; rintro e w4 ⟨rfl, c⟩; have b4 := b3.trans (c.mono b3.size); clear c)
      | (go_at_call 22; refine (hR _).mono ?_; rintro e w5 ⟨⟨v, rfl⟩, c⟩; have b5 := b4.trans (c.mono b4.size); clear c)
      | (go_at_call 14; refine (num_any _ _).mono ?_; rintro e wk ⟨rfl, rfl⟩)
      | (go_at_call 18; refine (known_any _ _).mono ?_; rintro e wk ⟨rfl, rfl⟩))
    go_ret
    exact ⟨rfl, b5⟩
  have yy5 : decide (1000 < dy) = false := decide_eq_false q5
  omega

set_option maxRecDepth 100000 in
set_option maxHeartbeats 3200000 in
theorem called_let (rule text s gs tt u : ByteArray) (n way dx dy i1 io i2 ih ix k3 i3 : Int) (y1 y2 y3 y4 : Int) (D D1 D2 : List Cel) (w : World) (ht : Tab w.heap.size w) (hT : TurnTab w)
    (hC1 : ∀ w, Tab w.heap.size w → TurnTab w → Calls Tryz.prog 33 #[.string rule, .string text] w fun e w' => e = .returned (.tuple #[.string s, .int .i64 0, .int .i64 i1]) ∧ Below w.heap.size w w')
    (hO : ∀ w, Calls Tryz.prog 20 #[.string rule, .string text] w fun e w' => e = .returned (.tuple #[.agg #[.int .i64 y1, .int .i64 y2, .int .i64 y3, .int .i64 y4], .int .i64 0, .int .i64 io]) ∧ Below w.heap.size w w')
    (hC2 : ∀ w, Tab w.heap.size w → TurnTab w → Calls Tryz.prog 33 #[.string rule, .string s] w fun e w' => e = .returned (.tuple #[.string s, .int .i64 0, .int .i64 i2]) ∧ Below w.heap.size w w')
    (hS : ∀ w, Tab w.heap.size w → Calls Tryz.prog 12 #[.string rule, .string text, .int .i64 n] w fun e w' => e = .returned (.tuple #[.string gs, .int .i64 0, .int .i64 ih]) ∧ Below w.heap.size w w')
    (hR : ∀ w, Calls Tryz.prog 22 #[.string gs] w fun e w' => (∃ v, e = .returned (.tuple #[v, .int .i64 0, .int .i64 ix]) ∧ RowAt w' v D) ∧ Below w.heap.size w w')
    (hTu : ∀ v w, RowAt w v D → Calls Tryz.prog 24 #[v, .int .i64 way] w fun e w' => (∃ v', e = .returned v' ∧ RowAt w' v' D1) ∧ Below w.heap.size w w')
    (hMo : ∀ v w, RowAt w v D1 → Calls Tryz.prog 25 #[v, .int .i64 dx, .int .i64 dy] w fun e w' => (∃ v', e = .returned v' ∧ w'.ownsRow 0 44 2 v' D2.length (flatC D2)) ∧ Below w.heap.size w w')
    (hWr : ∀ v w, w.ownsRow 0 44 2 v D2.length (flatC D2) → Calls Tryz.prog 15 #[v] w fun e w' => e = .returned (.string tt) ∧ Below w.heap.size w w')
    (hC3 : ∀ w, Tab w.heap.size w → TurnTab w → Calls Tryz.prog 33 #[.string rule, .string tt] w fun e w' => e = .returned (.tuple #[.string u, .int .i64 k3, .int .i64 i3]) ∧ Below w.heap.size w w')
    (hs : s ≠ ⟨#[]⟩) (hl : s.size ≤ 1500) (hw0 : 0 ≤ way ∧ way ≤ 7) (hdx : -1000 ≤ dx ∧ dx ≤ 1000) (hdy : -1000 ≤ dy ∧ dy ≤ 1000) (hq : k3 = 4 ∨ k3 = 1) :
    Calls Tryz.prog 10 #[.string rule, .string text, .int .i64 n, .int .i64 way, .int .i64 dx, .int .i64 dy] w fun e w' => e = .returned (.bool true) ∧ Below w.heap.size w w' := by
  have hs3 : ¬ s.toList = [] := toList_ne hs
  have hs4 : s.toList.isEmpty = false := by simpa using hs3
  have z4 : decide ((1500 : Int) < (s.size : Int)) = false := decide_eq_false (by omega)
  have yy0 : decide (way < 0) = false := decide_eq_false (by omega)
  have yy1 : decide (7 < way) = false := decide_eq_false (by omega)
  have yy2 : decide (dx < -1000) = false := decide_eq_false (by omega)
  have yy3 : decide (1000 < dx) = false := decide_eq_false (by omega)
  have yy4 : decide (dy < -1000) = false := decide_eq_false (by omega)
  have yy5 : decide (1000 < dy) = false := decide_eq_false (by omega)
  rcases hq with rfl | rfl
  all_goals (
    go_enter Tryz.func10, Tryz.ntmps10
    go_wp2_with (first
      | (go_at_call 31; refine (named_any w ht hT).mono ?_; rintro e w0 ⟨rfl, b0⟩)
      | (go_at_call 33; first
        | (with_reducible refine (hC1 _ (tab_up ht b0 b0.size) (hT.on b0 (Nat.le_refl _))).mono ?_; rintro e w1 ⟨rfl, c⟩; have b1 := b0.trans (c.mono b0.size); clear c)
        | (with_reducible refine (hC2 _ (tab_up ht b2 b2.size) (hT.on b2 (Nat.le_refl _))).mono ?_; rintro e w3 ⟨rfl, c⟩; have b3 := b2.trans (c.mono b2.size); clear c)
        | (with_reducible refine (hC3 _ (tab_up ht b8 b8.size) (hT.on b8 (Nat.le_refl _))).mono ?_; rintro e w9 ⟨rfl, c⟩; have b9 := b8.trans (c.mono b8.size); clear c))
      | (go_at_call 20; refine (hO _).mono ?_; rintro e w2 ⟨rfl, c⟩; have b2 := (b1.trans (c.mono b1.size)).alloc (b1.trans (c.mono b1.size)).size (.cells #[.int .i64 y1, .int .i64 y2, .int .i64 y3, .int .i64 y4] 37); clear c)
      | (go_at_call 12; refine (hS _ (tab_up ht b3 b3.size)).mono ?_; rintro e w4 ⟨rfl, c⟩; have b4 := b3.trans (c.mono b3.size); clear c)
      | (go_at_call 22; refine (hR _).mono ?_; rintro e w5 ⟨⟨v, rfl, rw5⟩, c⟩; have b5 := b4.trans (c.mono b4.size); clear c)
      | (go_at_call 24; refine (hTu _ _ rw5).mono ?_; rintro e w6 ⟨⟨v6, rfl, rw6⟩, c⟩; have b6 := b5.trans (c.mono b5.size); clear c)
      | (go_at_call 25; refine (hMo _ _ rw6).mono ?_; rintro e w7 ⟨⟨v7, rfl, own7⟩, c⟩; have b7 := b6.trans (c.mono b6.size); clear c)
      | (go_at_call 15; refine (hWr _ _ own7).mono ?_; rintro e w8 ⟨rfl, c⟩; have b8 := b7.trans (c.mono b7.size); clear c)
      | (go_at_call 14; refine (num_any _ _).mono ?_; rintro e wk ⟨rfl, rfl⟩)
      | (go_at_call 18; refine (known_any _ _).mono ?_; rintro e wk ⟨rfl, rfl⟩))
    go_ret
    exact ⟨rfl, b9⟩)

set_option maxRecDepth 100000 in
set_option maxHeartbeats 3200000 in
theorem called_told (rule text s gs tt : ByteArray) (n way dx dy i1 io i2 ih ix i3 : Int) (y1 y2 y3 y4 : Int) (D D1 D2 : List Cel) (w : World) (ht : Tab w.heap.size w) (hT : TurnTab w)
    (hC1 : ∀ w, Tab w.heap.size w → TurnTab w → Calls Tryz.prog 33 #[.string rule, .string text] w fun e w' => e = .returned (.tuple #[.string s, .int .i64 0, .int .i64 i1]) ∧ Below w.heap.size w w')
    (hO : ∀ w, Calls Tryz.prog 20 #[.string rule, .string text] w fun e w' => e = .returned (.tuple #[.agg #[.int .i64 y1, .int .i64 y2, .int .i64 y3, .int .i64 y4], .int .i64 0, .int .i64 io]) ∧ Below w.heap.size w w')
    (hC2 : ∀ w, Tab w.heap.size w → TurnTab w → Calls Tryz.prog 33 #[.string rule, .string s] w fun e w' => e = .returned (.tuple #[.string s, .int .i64 0, .int .i64 i2]) ∧ Below w.heap.size w w')
    (hS : ∀ w, Tab w.heap.size w → Calls Tryz.prog 12 #[.string rule, .string text, .int .i64 n] w fun e w' => e = .returned (.tuple #[.string gs, .int .i64 0, .int .i64 ih]) ∧ Below w.heap.size w w')
    (hR : ∀ w, Calls Tryz.prog 22 #[.string gs] w fun e w' => (∃ v, e = .returned (.tuple #[v, .int .i64 0, .int .i64 ix]) ∧ RowAt w' v D) ∧ Below w.heap.size w w')
    (hTu : ∀ v w, RowAt w v D → Calls Tryz.prog 24 #[v, .int .i64 way] w fun e w' => (∃ v', e = .returned v' ∧ RowAt w' v' D1) ∧ Below w.heap.size w w')
    (hMo : ∀ v w, RowAt w v D1 → Calls Tryz.prog 25 #[v, .int .i64 dx, .int .i64 dy] w fun e w' => (∃ v', e = .returned v' ∧ w'.ownsRow 0 44 2 v' D2.length (flatC D2)) ∧ Below w.heap.size w w')
    (hWr : ∀ v w, w.ownsRow 0 44 2 v D2.length (flatC D2) → Calls Tryz.prog 15 #[v] w fun e w' => e = .returned (.string tt) ∧ Below w.heap.size w w')
    (hC3 : ∀ w, Tab w.heap.size w → TurnTab w → Calls Tryz.prog 33 #[.string rule, .string tt] w fun e w' => e = .returned (.tuple #[.string s, .int .i64 0, .int .i64 i3]) ∧ Below w.heap.size w w')
    (hs : s ≠ ⟨#[]⟩) (hl : s.size ≤ 1500) (hw0 : 0 ≤ way ∧ way ≤ 7) (hdx : -1000 ≤ dx ∧ dx ≤ 1000) (hdy : -1000 ≤ dy ∧ dy ≤ 1000) :
    Calls Tryz.prog 10 #[.string rule, .string text, .int .i64 n, .int .i64 way, .int .i64 dx, .int .i64 dy] w fun e w' => e = .returned (.bool true) ∧ Below w.heap.size w w' := by
  have hs3 : ¬ s.toList = [] := toList_ne hs
  have hs4 : s.toList.isEmpty = false := by simpa using hs3
  have z4 : decide ((1500 : Int) < (s.size : Int)) = false := decide_eq_false (by omega)
  have yy0 : decide (way < 0) = false := decide_eq_false (by omega)
  have yy1 : decide (7 < way) = false := decide_eq_false (by omega)
  have yy2 : decide (dx < -1000) = false := decide_eq_false (by omega)
  have yy3 : decide (1000 < dx) = false := decide_eq_false (by omega)
  have yy4 : decide (dy < -1000) = false := decide_eq_false (by omega)
  have yy5 : decide (1000 < dy) = false := decide_eq_false (by omega)
  go_enter Tryz.func10, Tryz.ntmps10
  go_wp2_with (first
    | (go_at_call 31; refine (named_any w ht hT).mono ?_; rintro e w0 ⟨rfl, b0⟩)
    | (go_at_call 33; first
        | (with_reducible refine (hC1 _ (tab_up ht b0 b0.size) (hT.on b0 (Nat.le_refl _))).mono ?_; rintro e w1 ⟨rfl, c⟩; have b1 := b0.trans (c.mono b0.size); clear c)
        | (with_reducible refine (hC2 _ (tab_up ht b2 b2.size) (hT.on b2 (Nat.le_refl _))).mono ?_; rintro e w3 ⟨rfl, c⟩; have b3 := b2.trans (c.mono b2.size); clear c)
        | (with_reducible refine (hC3 _ (tab_up ht b8 b8.size) (hT.on b8 (Nat.le_refl _))).mono ?_; rintro e w9 ⟨rfl, c⟩; have b9 := b8.trans (c.mono b8.size); clear c))
    | (go_at_call 20; refine (hO _).mono ?_; rintro e w2 ⟨rfl, c⟩; have b2 := (b1.trans (c.mono b1.size)).alloc (b1.trans (c.mono b1.size)).size (.cells #[.int .i64 y1, .int .i64 y2, .int .i64 y3, .int .i64 y4] 37); clear c)
    | (go_at_call 12; refine (hS _ (tab_up ht b3 b3.size)).mono ?_; rintro e w4 ⟨rfl, c⟩; have b4 := b3.trans (c.mono b3.size); clear c)
    | (go_at_call 22; refine (hR _).mono ?_; rintro e w5 ⟨⟨v, rfl, rw5⟩, c⟩; have b5 := b4.trans (c.mono b4.size); clear c)
    | (go_at_call 24; refine (hTu _ _ rw5).mono ?_; rintro e w6 ⟨⟨v6, rfl, rw6⟩, c⟩; have b6 := b5.trans (c.mono b5.size); clear c)
    | (go_at_call 25; refine (hMo _ _ rw6).mono ?_; rintro e w7 ⟨⟨v7, rfl, own7⟩, c⟩; have b7 := b6.trans (c.mono b6.size); clear c)
    | (go_at_call 15; refine (hWr _ _ own7).mono ?_; rintro e w8 ⟨rfl, c⟩; have b8 := b7.trans (c.mono b7.size); clear c)
    | (go_at_call 14; refine (num_any _ _).mono ?_; rintro e wk ⟨rfl, rfl⟩)
    | (go_at_call 18; refine (known_any _ _).mono ?_; rintro e wk ⟨rfl, rfl⟩))
  go_ret
  exact ⟨rfl, b9⟩

end Go.Proofs.YtiohpcnnpmnjhaaGreatDoor

namespace Go.Proofs.YtiohpcnnpmnjhaaGreatDoor
open Go.RowKit Go.Shelf
set_option linter.unusedVariables false

theorem codeA_of {rule text : ByteArray} {f g : Nat → Bool} {C : List Cel} {t s : Nat} (hr : ruleR rule = .inr (f, g)) (hp : patR text = .inr C) (hc : course f g C = .inr (t, s)) : codeA rule text = (codeT f g C s (t - s), 0, 0) := by unfold codeA; rw [hr]; simp only [hp, hc]
theorem codeA_pat {rule text : ByteArray} {f g : Nat → Bool} {k : Int} {i : Nat} (hr : ruleR rule = .inr (f, g)) (hp : patR text = .inl (k, i)) : codeA rule text = (⟨#[]⟩, k, (i : Int)) := by unfold codeA; rw [hr]; simp only [hp]
/-- Code's errors are Orbit's. -/
theorem code_orbit (rule text : ByteArray) : (orbitA rule text).2 = (codeA rule text).2 ∧ (((codeA rule text).1 = ⟨#[]⟩ ∧ (codeA rule text).2.1 ≠ 0) ∨ ∃ f g C t s, ruleR rule = .inr (f, g) ∧ patR text = .inr C ∧ course f g C = .inr (t, s)) := by
  unfold orbitA codeA
  cases hr : ruleR rule with
  | inl x =>
    have := ruleR_bad hr
    simp at this
    exact ⟨rfl, .inl ⟨rfl, this⟩⟩
  | inr x =>
    obtain ⟨f, g⟩ := x
    simp only
    cases hp : patR text with
    | inl x =>
      have := patR_bad hp
      simp at this
      exact ⟨rfl, .inl ⟨rfl, this⟩⟩
    | inr C =>
      simp only
      cases hc : course f g C with
      | inl k => exact ⟨rfl, .inl ⟨rfl, courseF_ne 201 0 hc⟩⟩
      | inr x => exact ⟨rfl, .inr ⟨f, g, C, x.1, x.2, rfl, rfl, hc⟩⟩
theorem far_home {H : List Cel} (h : Fine H 0 0) : farL H = false := by
  unfold farL
  rw [List.any_eq_false]
  intro c hc
  have := h.win c hc
  unfold inWin at this
  simp only [farB, MC, Bool.not_eq_true, Bool.or_eq_false_iff, decide_eq_false_iff_not]
  omega

/-- The law Called. -/
theorem called_walk (rule text : ByteArray) (n way dx dy : Int) (h1 : rule.size ≤ maxLen) (h2 : text.size ≤ maxLen) (w : World) (ht : Tab w.heap.size w) (hT : TurnTab w) :
    Calls Tryz.prog 10 #[.string rule, .string text, .int .i64 n, .int .i64 way, .int .i64 dx, .int .i64 dy] w fun e w' => e = .returned (.bool true) ∧ Below w.heap.size w w' := by
  have hC1 := fun w ht hT => code_any rule text w h1 h2 ht hT
  have hO := fun w => orbit_any rule text w h1 h2
  obtain ⟨heo, hcases⟩ := code_orbit rule text
  obtain ⟨⟨⟨y1, y2, y3, y4⟩, ko, io⟩, hOA⟩ : ∃ A, orbitA rule text = A := ⟨_, rfl⟩
  simp only [hOA, cycC] at hO
  rw [hOA] at heo
  simp only at heo
  rcases hcases with ⟨he, hk⟩ | ⟨f, g, C, t, s, hr, hp, hc⟩
  · rw [he] at hC1
    obtain ⟨⟨kc, ic⟩, hx⟩ : ∃ q, (codeA rule text).2 = q := ⟨_, rfl⟩
    rw [hx] at heo hk
    cases heo
    simp only [hx] at hC1
    exact called_bad rule text n way dx dy ko io io y1 y2 y3 y4 w ht hT hC1 hO hk
  have hA := codeA_of hr hp hc
  rw [hA] at heo
  cases heo
  simp only [hA] at hC1
  obtain ⟨X, Y, hf, hbx⟩ := patR_tight hp
  obtain ⟨hst, ht200, _⟩ := course_tail hc 0
  have hne : textsL f g C s (t - s) ≠ [] := fun e => by
    have : turnT 0 (gen f g C (s + 0)) ∈ textsL f g C s (t - s) := mem_textsL.2 ⟨0, 0, by omega, by omega, rfl⟩
    rw [e] at this; simp at this
  have hmem := least_mem (L := textsL f g C s (t - s)) (fun x hx => by obtain ⟨j, w, _, _, rfl⟩ := mem_textsL.1 hx; exact turnT_ne _ _) hne
  rw [← codeT_fold] at hmem
  obtain ⟨j0, w0, hj0, hw0, hTx⟩ := mem_textsL.1 hmem
  have hcod := gen_codable hf hbx hc (i := s + j0) (by omega)
  have hH := home_fine hcod hw0
  have hz : ∀ D : List Cel, (⟨(plainB D).toArray⟩ : ByteArray).size = (plainB D).length := fun D => by show (plainB D).toArray.size = _; simp
  have hsame := codeT_same hf.asc hc
  obtain ⟨H, hHe⟩ : ∃ H, homeL (imgL (turnC w0) (gen f g C (s + j0))) = H := ⟨_, rfl⟩
  have hHi : ∃ a b, H = imgL (tmC w0 a b) (gen f g C (s + j0)) := ⟨_, _, by rw [← hHe]; exact imgL_tm _ _ _ _⟩
  have hT0 : codeT f g C s (t - s) = ⟨(plainB H).toArray⟩ := by rw [hTx, ← hHe]; rfl
  rw [hHe] at hH
  have hsm := plain_small hH
  have hs1 : (⟨(plainB H).toArray⟩ : ByteArray).size ≤ maxLen := by rw [hz]; unfold maxLen; omega
  rw [hT0] at hC1
  have hC2 := fun w ht hT => code_any rule ⟨(plainB H).toArray⟩ w h1 hs1 ht hT
  by_cases hl : (plainB H).length ≤ 1500
  rotate_left
  · rw [codeA_pat hr (patR_long hl)] at hC2
    exact called_long rule text _ ⟨#[]⟩ n way dx dy 0 0 _ y1 y2 y3 y4 w ht hT hC1 hO hC2 (plain_ne' H) (by rw [hz]; omega)
  have hpH := patR_plain hH.asc hH.len (far_home hH) hl
  have hA2 : codeA rule ⟨(plainB H).toArray⟩ = (⟨(plainB H).toArray⟩, 0, 0) := by
    obtain ⟨a, b, hab⟩ := hHi
    obtain ⟨s', e1, e2⟩ := hsame (s + j0) hw0 a b
    rw [← hab] at e1 e2
    rw [codeA_of hr hpH e1, show s' + (t - s) - s' = t - s by omega, e2, hT0]
  rw [hA2] at hC2
  have hl' : (⟨(plainB H).toArray⟩ : ByteArray).size ≤ 1500 := by rw [hz]; exact hl
  have hS := fun w ht => step_any rule text n w h1 h2 ht
  by_cases hk : (stepA rule text n).2.1 = 0
  rotate_left
  · rw [stepA_bad hk] at hS
    obtain ⟨k2, i2, hR⟩ : ∃ k2 i2, ∀ w, Calls Tryz.prog 22 #[.string ⟨#[]⟩] w fun e w' => (∃ v, e = .returned (.tuple #[v, .int .i64 k2, .int .i64 i2])) ∧ Below w.heap.size w w' := by
      have h0 : (⟨#[]⟩ : ByteArray).size ≤ maxLen := by unfold maxLen; decide
      cases hp : patR ⟨#[]⟩ with
      | inl x =>
        obtain ⟨k, i⟩ := x
        refine ⟨k, i, fun w => (refRead_any ⟨#[]⟩ w h0).mono fun e w' h => ?_⟩
        unfold RefPat at h; rw [hp] at h; exact ⟨⟨_, h.2⟩, h.1⟩
      | inr C =>
        refine ⟨0, 0, fun w => (refRead_any ⟨#[]⟩ w h0).mono fun e w' h => ?_⟩
        unfold RefPat at h; rw [hp] at h; obtain ⟨hb, v, he, _⟩ := h; exact ⟨⟨v, he⟩, hb⟩
    exact called_none rule text _ ⟨#[]⟩ n way dx dy 0 0 0 _ _ k2 i2 y1 y2 y3 y4 w ht hT hC1 hO hC2 hS hR (plain_ne' H) hl' hk
  obtain ⟨f', g', C', D, a1, a2, a3, hSA⟩ := stepA_ok hk
  rw [hr] at a1; cases a1
  rw [hp] at a2; cases a2
  rw [hSA] at hS
  simp only at hS
  have hDg := afterR_gen a3
  obtain ⟨X1, Y1, hfD⟩ := afterR_fine hf hbx a3
  have hsD := plain_small hfD
  have hs2 : (⟨(plainB D).toArray⟩ : ByteArray).size ≤ maxLen := by rw [hz]; unfold maxLen; omega
  by_cases hlD : (plainB D).length ≤ 1500
  rotate_left
  · have hR : ∀ w, Calls Tryz.prog 22 #[.string ⟨(plainB D).toArray⟩] w fun e w' => (∃ v, e = .returned (.tuple #[v, .int .i64 1, .int .i64 ((0 : Nat) : Int)])) ∧ Below w.heap.size w w' := fun w => (refRead_any _ w hs2).mono fun e w' h => by
      unfold RefPat at h; rw [patR_long hlD] at h; exact ⟨⟨_, h.2⟩, h.1⟩
    exact called_unread rule text _ _ n way dx dy 0 0 0 0 1 _ y1 y2 y3 y4 w ht hT hC1 hO hC2 hS hR (plain_ne' H) hl' (by decide)
  have hpD := patR_plain hfD.asc hfD.len (afterR_reach a3).2.1 hlD
  have hR : ∀ w, Calls Tryz.prog 22 #[.string ⟨(plainB D).toArray⟩] w fun e w' => (∃ v, e = .returned (.tuple #[v, .int .i64 0, .int .i64 0]) ∧ RowAt w' v D) ∧ Below w.heap.size w w' := fun w => (refRead_any _ w hs2).mono fun e w' h => by
    unfold RefPat at h; rw [hpD] at h; obtain ⟨hb, v, he, own⟩ := h; exact ⟨⟨v, he, RowAt.of_owns own⟩, hb⟩
  by_cases hin : (0 ≤ way ∧ way ≤ 7) ∧ (-1000 ≤ dx ∧ dx ≤ 1000) ∧ (-1000 ≤ dy ∧ dy ≤ 1000)
  rotate_left
  · exact called_out rule text _ _ n way dx dy 0 0 0 0 0 y1 y2 y3 y4 w ht hT hC1 hO hC2 hS (fun w => (hR w).mono fun e w' ⟨⟨v, he, _⟩, hb⟩ => ⟨⟨v, he⟩, hb⟩) (plain_ne' H) hl' (by omega)
  obtain ⟨⟨q1, q2⟩, hdx, hdy⟩ := hin
  obtain ⟨k, rfl⟩ : ∃ k : Nat, way = (k : Int) := ⟨way.toNat, by omega⟩
  have hk8 : k < 8 := by omega
  obtain ⟨ψ0, hm0⟩ := mot_turn k
  have hTu : ∀ v w, RowAt w v D → Calls Tryz.prog 24 #[v, .int .i64 (k : Int)] w fun e w' => (∃ v', e = .returned v' ∧ RowAt w' v' (imgL (turnC k) D)) ∧ Below w.heap.size w w' := fun v w hr => (rturned_any v D k hk8 w hr (by have := hfD.len; omega) (turnable_fine hfD)).mono fun e w' ⟨⟨v', he, own⟩, hb⟩ => ⟨⟨v', he, RowAt.of_owns own⟩, hb⟩
  have hMo : ∀ v w, RowAt w v (imgL (turnC k) D) → Calls Tryz.prog 25 #[v, .int .i64 dx, .int .i64 dy] w fun e w' => (∃ v', e = .returned v' ∧ w'.ownsRow 0 44 2 v' (imgL (tmC k dx dy) D).length (flatC (imgL (tmC k dx dy) D))) ∧ Below w.heap.size w w' := fun v w hr => (rmoved_any v (imgL (turnC k) D) dx dy w hr (by rw [hm0.len hfD.asc]; have := hfD.len; omega) (turned_fits hfD hk8 hdx hdy)).mono fun e w' ⟨⟨v', he, own⟩, hb⟩ => by
    rw [imgL_tm] at own
    exact ⟨⟨v', he, ownsRow_up own (Nat.zero_le _)⟩, hb⟩
  obtain ⟨X', Y', hfw⟩ := turned_fine hfD hk8 hdx hdy
  have hWr : ∀ v w, w.ownsRow 0 44 2 v (imgL (tmC k dx dy) D).length (flatC (imgL (tmC k dx dy) D)) → Calls Tryz.prog 15 #[v] w fun e w' => e = .returned (.string ⟨(plainB (imgL (tmC k dx dy) D)).toArray⟩) ∧ Below w.heap.size w w' := fun v w own => write_anyW X' Y' 0 v _ w own hfw
  have hsw := plain_smallW hfw
  have h3 : (⟨(plainB (imgL (tmC k dx dy) D)).toArray⟩ : ByteArray).size ≤ maxLen := by rw [hz]; unfold maxLen; omega
  have hC3 := fun w ht hT => code_any rule ⟨(plainB (imgL (tmC k dx dy) D)).toArray⟩ w h1 h3 ht hT
  have hlet := fun (u : ByteArray) (k3 i3 : Int) hC3 hq => called_let rule text ⟨(plainB H).toArray⟩ ⟨(plainB D).toArray⟩ ⟨(plainB (imgL (tmC k dx dy) D)).toArray⟩ u n (k : Int) dx dy 0 0 0 0 0 k3 i3 y1 y2 y3 y4 D (imgL (turnC k) D) (imgL (tmC k dx dy) D) w ht hT hC1 hO hC2 hS hR hTu hMo hWr hC3 (plain_ne' H) hl' ⟨q1, q2⟩ hdx hdy hq
  by_cases hlen : (plainB (imgL (tmC k dx dy) D)).length ≤ 1500
  rotate_left
  · rw [codeA_pat hr (patR_long hlen)] at hC3
    exact hlet _ _ _ hC3 (.inr rfl)
  cases hfT : farL (imgL (tmC k dx dy) D) with
  | true =>
    rw [codeA_pat hr (patR_beyond hfw hfT hlen)] at hC3
    exact hlet _ _ _ hC3 (.inl rfl)
  | false =>
    have hpT := patR_plain hfw.asc hfw.len hfT hlen
    obtain ⟨s', e1, e2⟩ := hsame n.toNat hk8 dx dy
    rw [← hDg] at e1 e2
    rw [codeA_of hr hpT e1, show s' + (t - s) - s' = t - s by omega, e2, hT0] at hC3
    exact called_told rule text _ _ _ n (k : Int) dx dy 0 0 0 0 0 0 y1 y2 y3 y4 D (imgL (turnC k) D) (imgL (tmC k dx dy) D) w ht hT hC1 hO hC2 hS hR hTu hMo hWr hC3 (plain_ne' H) hl' ⟨q1, q2⟩ hdx hdy

end Go.Proofs.YtiohpcnnpmnjhaaGreatDoor
