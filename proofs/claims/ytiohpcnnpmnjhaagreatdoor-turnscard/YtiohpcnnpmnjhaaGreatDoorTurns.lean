import Derived.Test.YtiohpcnnpmnjhaaGreatDoorTurnFine
namespace Go.Proofs.YtiohpcnnpmnjhaaGreatDoor
open Go.RowKit Go.Shelf
set_option linter.unusedVariables false

set_option maxRecDepth 100000 in
set_option maxHeartbeats 1600000 in
theorem turns_wrong (rule text : ByteArray) (n way dx dy k i k2 i2 : Int) (w : World) (ht : Tab w.heap.size w) (h1 : rule.size ≤ maxLen) (h2 : text.size ≤ maxLen) (hr : rightB rule text = false) (hk : k ≠ 0)
    (hP : ∀ w, Tab w.heap.size w → Calls Tryz.prog 12 #[.string rule, .string text, .int .i64 n] w fun e w' => e = .returned (.tuple #[.string ⟨#[]⟩, .int .i64 k, .int .i64 i]) ∧ Below w.heap.size w w')
    (hT : ∀ w, Calls Tryz.prog 22 #[.string text] w fun e w' => (∃ v, e = .returned (.tuple #[v, .int .i64 k2, .int .i64 i2])) ∧ Below w.heap.size w w') :
    Calls Tryz.prog 6 #[.string rule, .string text, .int .i64 n, .int .i64 way, .int .i64 dx, .int .i64 dy] w fun e w' => e = .returned (.bool true) ∧ Below w.heap.size w w' := by
  have hk0 : (k == 0) = false := by simpa using hk
  have hA := alive_any w ht
  have hR := fun w => right_any rule text w h1 h2
  rw [hr] at hR
  have hK := fun w => known_any k w
  rw [hk0] at hK
  go_enter Tryz.func6, Tryz.ntmps6
  go_wp2_with (first
    | (go_at_call 16; refine hA.mono ?_; rintro e w0 ⟨rfl, b0⟩)
    | (go_at_call 17; refine (hR _).mono ?_; rintro e w3 ⟨rfl, c3⟩; have b3 := b2.trans (c3.mono b2.size))
    | (go_at_call 12; refine (hP _ (tab_up ht b0 b0.size)).mono ?_; rintro e w1 ⟨rfl, c1⟩; have b1 := b0.trans (c1.mono b0.size))
    | (go_at_call 22; refine (hT _).mono ?_; rintro e w2 ⟨⟨v, rfl⟩, c2⟩; have b2 := b1.trans (c2.mono b1.size))
    | (go_at_call 18; refine (hK _).mono ?_; rintro e w9 ⟨rfl, rfl⟩))
  go_ret
  exact ⟨rfl, b3⟩

set_option maxRecDepth 100000 in
set_option maxHeartbeats 1600000 in
theorem turns_outE (rule text : ByteArray) (n way dx dy k i : Int) (w : World) (ht : Tab w.heap.size w) (h1 : rule.size ≤ maxLen) (h2 : text.size ≤ maxLen) (hr : rightB rule text = true) (hk : k ≠ 0)
    (hP : ∀ w, Tab w.heap.size w → Calls Tryz.prog 12 #[.string rule, .string text, .int .i64 n] w fun e w' => e = .returned (.tuple #[.string ⟨#[]⟩, .int .i64 k, .int .i64 i]) ∧ Below w.heap.size w w')
    (hT : ∀ w, Calls Tryz.prog 22 #[.string text] w fun e w' => (∃ v, e = .returned (.tuple #[v, .int .i64 0, .int .i64 0])) ∧ Below w.heap.size w w')
    (hq : way < 0 ∨ 7 < way ∨ dx < -1000 ∨ 1000 < dx ∨ dy < -1000 ∨ 1000 < dy) :
    Calls Tryz.prog 6 #[.string rule, .string text, .int .i64 n, .int .i64 way, .int .i64 dx, .int .i64 dy] w fun e w' => e = .returned (.bool true) ∧ Below w.heap.size w w' := by
  have hA := alive_any w ht
  have hR := fun w => right_any rule text w h1 h2
  rw [hr] at hR
  have hk0 : (k == 0) = false := by simpa using hk
  have hK := fun w => known_any k w
  rw [hk0] at hK
  by_cases q0 : way < 0
  · have y0 : decide (way < 0) = true := decide_eq_true q0
    go_enter Tryz.func6, Tryz.ntmps6
    go_wp2_with (first
      | (go_at_call 16; refine hA.mono ?_; rintro e w0 ⟨rfl, b0⟩)
      | (go_at_call 17; refine (hR _).mono ?_; rintro e w3 ⟨rfl, c3⟩; have b3 := b2.trans (c3.mono b2.size))
      | (go_at_call 12; refine (hP _ (tab_up ht b0 b0.size)).mono ?_; rintro e w1 ⟨rfl, c1⟩; have b1 := b0.trans (c1.mono b0.size))
      | (go_at_call 22; refine (hT _).mono ?_; rintro e w2 ⟨⟨v, rfl⟩, c2⟩; have b2 := b1.trans (c2.mono b1.size))
      | (go_at_call 18; refine (hK _).mono ?_; rintro e w9 ⟨rfl, rfl⟩))
    go_ret
    exact ⟨rfl, b3⟩
  have y0 : decide (way < 0) = false := decide_eq_false q0
  by_cases q1 : 7 < way
  · have y1 : decide (7 < way) = true := decide_eq_true q1
    go_enter Tryz.func6, Tryz.ntmps6
    go_wp2_with (first
      | (go_at_call 16; refine hA.mono ?_; rintro e w0 ⟨rfl, b0⟩)
      | (go_at_call 17; refine (hR _).mono ?_; rintro e w3 ⟨rfl, c3⟩; have b3 := b2.trans (c3.mono b2.size))
      | (go_at_call 12; refine (hP _ (tab_up ht b0 b0.size)).mono ?_; rintro e w1 ⟨rfl, c1⟩; have b1 := b0.trans (c1.mono b0.size))
      | (go_at_call 22; refine (hT _).mono ?_; rintro e w2 ⟨⟨v, rfl⟩, c2⟩; have b2 := b1.trans (c2.mono b1.size))
      | (go_at_call 18; refine (hK _).mono ?_; rintro e w9 ⟨rfl, rfl⟩))
    go_ret
    exact ⟨rfl, b3⟩
  have y1 : decide (7 < way) = false := decide_eq_false q1
  by_cases q2 : dx < -1000
  · have y2 : decide (dx < -1000) = true := decide_eq_true q2
    go_enter Tryz.func6, Tryz.ntmps6
    go_wp2_with (first
      | (go_at_call 16; refine hA.mono ?_; rintro e w0 ⟨rfl, b0⟩)
      | (go_at_call 17; refine (hR _).mono ?_; rintro e w3 ⟨rfl, c3⟩; have b3 := b2.trans (c3.mono b2.size))
      | (go_at_call 12; refine (hP _ (tab_up ht b0 b0.size)).mono ?_; rintro e w1 ⟨rfl, c1⟩; have b1 := b0.trans (c1.mono b0.size))
      | (go_at_call 22; refine (hT _).mono ?_; rintro e w2 ⟨⟨v, rfl⟩, c2⟩; have b2 := b1.trans (c2.mono b1.size))
      | (go_at_call 18; refine (hK _).mono ?_; rintro e w9 ⟨rfl, rfl⟩))
    go_ret
    exact ⟨rfl, b3⟩
  have y2 : decide (dx < -1000) = false := decide_eq_false q2
  by_cases q3 : 1000 < dx
  · have y3 : decide (1000 < dx) = true := decide_eq_true q3
    go_enter Tryz.func6, Tryz.ntmps6
    go_wp2_with (first
      | (go_at_call 16; refine hA.mono ?_; rintro e w0 ⟨rfl, b0⟩)
      | (go_at_call 17; refine (hR _).mono ?_; rintro e w3 ⟨rfl, c3⟩; have b3 := b2.trans (c3.mono b2.size))
      | (go_at_call 12; refine (hP _ (tab_up ht b0 b0.size)).mono ?_; rintro e w1 ⟨rfl, c1⟩; have b1 := b0.trans (c1.mono b0.size))
      | (go_at_call 22; refine (hT _).mono ?_; rintro e w2 ⟨⟨v, rfl⟩, c2⟩; have b2 := b1.trans (c2.mono b1.size))
      | (go_at_call 18; refine (hK _).mono ?_; rintro e w9 ⟨rfl, rfl⟩))
    go_ret
    exact ⟨rfl, b3⟩
  have y3 : decide (1000 < dx) = false := decide_eq_false q3
  by_cases q4 : dy < -1000
  · have y4 : decide (dy < -1000) = true := decide_eq_true q4
    go_enter Tryz.func6, Tryz.ntmps6
    go_wp2_with (first
      | (go_at_call 16; refine hA.mono ?_; rintro e w0 ⟨rfl, b0⟩)
      | (go_at_call 17; refine (hR _).mono ?_; rintro e w3 ⟨rfl, c3⟩; have b3 := b2.trans (c3.mono b2.size))
      | (go_at_call 12; refine (hP _ (tab_up ht b0 b0.size)).mono ?_; rintro e w1 ⟨rfl, c1⟩; have b1 := b0.trans (c1.mono b0.size))
      | (go_at_call 22; refine (hT _).mono ?_; rintro e w2 ⟨⟨v, rfl⟩, c2⟩; have b2 := b1.trans (c2.mono b1.size))
      | (go_at_call 18; refine (hK _).mono ?_; rintro e w9 ⟨rfl, rfl⟩))
    go_ret
    exact ⟨rfl, b3⟩
  have y4 : decide (dy < -1000) = false := decide_eq_false q4
  have q5 : 1000 < dy := by omega
  have y5 : decide (1000 < dy) = true := decide_eq_true q5
  go_enter Tryz.func6, Tryz.ntmps6
  go_wp2_with (first
    | (go_at_call 16; refine hA.mono ?_; rintro e w0 ⟨rfl, b0⟩)
    | (go_at_call 17; refine (hR _).mono ?_; rintro e w3 ⟨rfl, c3⟩; have b3 := b2.trans (c3.mono b2.size))
    | (go_at_call 12; refine (hP _ (tab_up ht b0 b0.size)).mono ?_; rintro e w1 ⟨rfl, c1⟩; have b1 := b0.trans (c1.mono b0.size))
    | (go_at_call 22; refine (hT _).mono ?_; rintro e w2 ⟨⟨v, rfl⟩, c2⟩; have b2 := b1.trans (c2.mono b1.size))
    | (go_at_call 18; refine (hK _).mono ?_; rintro e w9 ⟨rfl, rfl⟩))
  go_ret
  exact ⟨rfl, b3⟩

set_option maxRecDepth 100000 in
set_option maxHeartbeats 1600000 in
theorem turns_outO (rule text s : ByteArray) (n way dx dy : Int) (w : World) (ht : Tab w.heap.size w) (h1 : rule.size ≤ maxLen) (h2 : text.size ≤ maxLen) (hr : rightB rule text = true) (hs : s ≠ ⟨#[]⟩)
    (hP : ∀ w, Tab w.heap.size w → Calls Tryz.prog 12 #[.string rule, .string text, .int .i64 n] w fun e w' => e = .returned (.tuple #[.string s, .int .i64 0, .int .i64 0]) ∧ Below w.heap.size w w')
    (hT : ∀ w, Calls Tryz.prog 22 #[.string text] w fun e w' => (∃ v, e = .returned (.tuple #[v, .int .i64 0, .int .i64 0])) ∧ Below w.heap.size w w')
    (hq : way < 0 ∨ 7 < way ∨ dx < -1000 ∨ 1000 < dx ∨ dy < -1000 ∨ 1000 < dy) :
    Calls Tryz.prog 6 #[.string rule, .string text, .int .i64 n, .int .i64 way, .int .i64 dx, .int .i64 dy] w fun e w' => e = .returned (.bool true) ∧ Below w.heap.size w w' := by
  have hA := alive_any w ht
  have hR := fun w => right_any rule text w h1 h2
  rw [hr] at hR
  have hs3 : ¬ s.toList = [] := toList_ne hs
  have hs4 : s.toList.isEmpty = false := by simpa using hs3
  have hK := fun w => known_any 0 w
  by_cases q0 : way < 0
  · have y0 : decide (way < 0) = true := decide_eq_true q0
    go_enter Tryz.func6, Tryz.ntmps6
    go_wp2_with (first
      | (go_at_call 16; refine hA.mono ?_; rintro e w0 ⟨rfl, b0⟩)
      | (go_at_call 17; refine (hR _).mono ?_; rintro e w3 ⟨rfl, c3⟩; have b3 := b2.trans (c3.mono b2.size))
      | (go_at_call 12; refine (hP _ (tab_up ht b0 b0.size)).mono ?_; rintro e w1 ⟨rfl, c1⟩; have b1 := b0.trans (c1.mono b0.size))
      | (go_at_call 22; refine (hT _).mono ?_; rintro e w2 ⟨⟨v, rfl⟩, c2⟩; have b2 := b1.trans (c2.mono b1.size))
      | (go_at_call 18; refine (hK _).mono ?_; rintro e w9 ⟨rfl, rfl⟩))
    go_ret
    exact ⟨rfl, b3⟩
  have y0 : decide (way < 0) = false := decide_eq_false q0
  by_cases q1 : 7 < way
  · have y1 : decide (7 < way) = true := decide_eq_true q1
    go_enter Tryz.func6, Tryz.ntmps6
    go_wp2_with (first
      | (go_at_call 16; refine hA.mono ?_; rintro e w0 ⟨rfl, b0⟩)
      | (go_at_call 17; refine (hR _).mono ?_; rintro e w3 ⟨rfl, c3⟩; have b3 := b2.trans (c3.mono b2.size))
      | (go_at_call 12; refine (hP _ (tab_up ht b0 b0.size)).mono ?_; rintro e w1 ⟨rfl, c1⟩; have b1 := b0.trans (c1.mono b0.size))
      | (go_at_call 22; refine (hT _).mono ?_; rintro e w2 ⟨⟨v, rfl⟩, c2⟩; have b2 := b1.trans (c2.mono b1.size))
      | (go_at_call 18; refine (hK _).mono ?_; rintro e w9 ⟨rfl, rfl⟩))
    go_ret
    exact ⟨rfl, b3⟩
  have y1 : decide (7 < way) = false := decide_eq_false q1
  by_cases q2 : dx < -1000
  · have y2 : decide (dx < -1000) = true := decide_eq_true q2
    go_enter Tryz.func6, Tryz.ntmps6
    go_wp2_with (first
      | (go_at_call 16; refine hA.mono ?_; rintro e w0 ⟨rfl, b0⟩)
      | (go_at_call 17; refine (hR _).mono ?_; rintro e w3 ⟨rfl, c3⟩; have b3 := b2.trans (c3.mono b2.size))
      | (go_at_call 12; refine (hP _ (tab_up ht b0 b0.size)).mono ?_; rintro e w1 ⟨rfl, c1⟩; have b1 := b0.trans (c1.mono b0.size))
      | (go_at_call 22; refine (hT _).mono ?_; rintro e w2 ⟨⟨v, rfl⟩, c2⟩; have b2 := b1.trans (c2.mono b1.size))
      | (go_at_call 18; refine (hK _).mono ?_; rintro e w9 ⟨rfl, rfl⟩))
    go_ret
    exact ⟨rfl, b3⟩
  have y2 : decide (dx < -1000) = false := decide_eq_false q2
  by_cases q3 : 1000 < dx
  · have y3 : decide (1000 < dx) = true := decide_eq_true q3
    go_enter Tryz.func6, Tryz.ntmps6
    go_wp2_with (first
      | (go_at_call 16; refine hA.mono ?_; rintro e w0 ⟨rfl, b0⟩)
      | (go_at_call 17; refine (hR _).mono ?_; rintro e w3 ⟨rfl, c3⟩; have b3 := b2.trans (c3.mono b2.size))
      | (go_at_call 12; refine (hP _ (tab_up ht b0 b0.size)).mono ?_; rintro e w1 ⟨rfl, c1⟩; have b1 := b0.trans (c1.mono b0.size))
      | (go_at_call 22; refine (hT _).mono ?_; rintro e w2 ⟨⟨v, rfl⟩, c2⟩; have b2 := b1.trans (c2.mono b1.size))
      | (go_at_call 18; refine (hK _).mono ?_; rintro e w9 ⟨rfl, rfl⟩))
    go_ret
    exact ⟨rfl, b3⟩
  have y3 : decide (1000 < dx) = false := decide_eq_false q3
  by_cases q4 : dy < -1000
  · have y4 : decide (dy < -1000) = true := decide_eq_true q4
    go_enter Tryz.func6, Tryz.ntmps6
    go_wp2_with (first
      | (go_at_call 16; refine hA.mono ?_; rintro e w0 ⟨rfl, b0⟩)
      | (go_at_call 17; refine (hR _).mono ?_; rintro e w3 ⟨rfl, c3⟩; have b3 := b2.trans (c3.mono b2.size))
      | (go_at_call 12; refine (hP _ (tab_up ht b0 b0.size)).mono ?_; rintro e w1 ⟨rfl, c1⟩; have b1 := b0.trans (c1.mono b0.size))
      | (go_at_call 22; refine (hT _).mono ?_; rintro e w2 ⟨⟨v, rfl⟩, c2⟩; have b2 := b1.trans (c2.mono b1.size))
      | (go_at_call 18; refine (hK _).mono ?_; rintro e w9 ⟨rfl, rfl⟩))
    go_ret
    exact ⟨rfl, b3⟩
  have y4 : decide (dy < -1000) = false := decide_eq_false q4
  have q5 : 1000 < dy := by omega
  have y5 : decide (1000 < dy) = true := decide_eq_true q5
  go_enter Tryz.func6, Tryz.ntmps6
  go_wp2_with (first
    | (go_at_call 16; refine hA.mono ?_; rintro e w0 ⟨rfl, b0⟩)
    | (go_at_call 17; refine (hR _).mono ?_; rintro e w3 ⟨rfl, c3⟩; have b3 := b2.trans (c3.mono b2.size))
    | (go_at_call 12; refine (hP _ (tab_up ht b0 b0.size)).mono ?_; rintro e w1 ⟨rfl, c1⟩; have b1 := b0.trans (c1.mono b0.size))
    | (go_at_call 22; refine (hT _).mono ?_; rintro e w2 ⟨⟨v, rfl⟩, c2⟩; have b2 := b1.trans (c2.mono b1.size))
    | (go_at_call 18; refine (hK _).mono ?_; rintro e w9 ⟨rfl, rfl⟩))
  go_ret
  exact ⟨rfl, b3⟩

set_option maxRecDepth 100000 in
set_option maxHeartbeats 6400000 in
/-- Where it is let be, or both tell the same error. -/
theorem turns_let (rule text s tt u : ByteArray) (n way dx dy e0 i0 kg ig : Int) (C C1 C2 : List Cel) (w : World) (ht : Tab w.heap.size w) (h1 : rule.size ≤ maxLen) (h2 : text.size ≤ maxLen) (hr : rightB rule text = true) (hw0 : 0 ≤ way ∧ way ≤ 7) (hdx : -1000 ≤ dx ∧ dx ≤ 1000) (hdy : -1000 ≤ dy ∧ dy ≤ 1000)
    (hP : ∀ w, Tab w.heap.size w → Calls Tryz.prog 12 #[.string rule, .string text, .int .i64 n] w fun e w' => e = .returned (.tuple #[.string s, .int .i64 e0, .int .i64 i0]) ∧ Below w.heap.size w w')
    (hQ : ∀ w, Tab w.heap.size w → Calls Tryz.prog 12 #[.string rule, .string tt, .int .i64 n] w fun e w' => e = .returned (.tuple #[.string u, .int .i64 kg, .int .i64 ig]) ∧ Below w.heap.size w w')
    (hT : ∀ w, Calls Tryz.prog 22 #[.string text] w fun e w' => (∃ v, e = .returned (.tuple #[v, .int .i64 0, .int .i64 0]) ∧ RowAt w' v C) ∧ Below w.heap.size w w')
    (hTu : ∀ v w, RowAt w v C → Calls Tryz.prog 24 #[v, .int .i64 way] w fun e w' => (∃ v', e = .returned v' ∧ RowAt w' v' C1) ∧ Below w.heap.size w w')
    (hMo : ∀ v w, RowAt w v C1 → Calls Tryz.prog 25 #[v, .int .i64 dx, .int .i64 dy] w fun e w' => (∃ v', e = .returned v' ∧ w'.ownsRow 0 44 2 v' C2.length (flatC C2)) ∧ Below w.heap.size w w')
    (hWr : ∀ v w, w.ownsRow 0 44 2 v C2.length (flatC C2) → Calls Tryz.prog 15 #[v] w fun e w' => e = .returned (.string tt) ∧ Below w.heap.size w w')
    (hq : e0 = 4 ∨ (e0 ≠ 4 ∧ kg = 4) ∨ (e0 ≠ 4 ∧ kg = 1) ∨ (e0 ≠ 4 ∧ kg ≠ 4 ∧ kg ≠ 1 ∧ 1500 < s.size) ∨ (e0 = kg ∧ kg ≠ 0 ∧ kg ≠ 4 ∧ kg ≠ 1 ∧ s = ⟨#[]⟩ ∧ u = ⟨#[]⟩)) :
    Calls Tryz.prog 6 #[.string rule, .string text, .int .i64 n, .int .i64 way, .int .i64 dx, .int .i64 dy] w fun e w' => e = .returned (.bool true) ∧ Below w.heap.size w w' := by
  have hA := alive_any w ht
  have hR := fun w => right_any rule text w h1 h2
  rw [hr] at hR
  have y0 : decide (way < 0) = false := decide_eq_false (by omega)
  have y1 : decide (7 < way) = false := decide_eq_false (by omega)
  have y2 : decide (dx < -1000) = false := decide_eq_false (by omega)
  have y3 : decide (1000 < dx) = false := decide_eq_false (by omega)
  have y4 : decide (dy < -1000) = false := decide_eq_false (by omega)
  have y5 : decide (1000 < dy) = false := decide_eq_false (by omega)
  rcases hq with rfl | ⟨he, rfl⟩ | ⟨he, rfl⟩ | ⟨he, hg4, hg1, hl⟩ | ⟨rfl, hg0, hg4, hg1, rfl, rfl⟩
  · have hK := fun w => known_any 0 w
    go_enter Tryz.func6, Tryz.ntmps6
    go_wp2_with (first
      | (go_at_call 16; refine hA.mono ?_; rintro e w0 ⟨rfl, b0⟩)
      | (go_at_call 12; first
          | (with_reducible refine (hP _ (tab_up ht b0 b0.size)).mono ?_; rintro e w1 ⟨rfl, c1⟩; have b1 := b0.trans (c1.mono b0.size))
          | (with_reducible refine (hQ _ (tab_up ht b6 b6.size)).mono ?_; rintro e w7 ⟨rfl, c7⟩; have b7 := b6.trans (c7.mono b6.size)))
      | (go_at_call 17; refine (hR _).mono ?_; rintro e w3 ⟨rfl, c3⟩; have b3 := b2.trans (c3.mono b2.size); have rw3 := rw2.below c3)
      | (go_at_call 22; refine (hT _).mono ?_; rintro e w2 ⟨⟨v, rfl, rw2⟩, c2⟩; have b2 := b1.trans (c2.mono b1.size))
      | (go_at_call 24; refine (hTu _ _ rw3).mono ?_; rintro e w4 ⟨⟨v4, rfl, rw4⟩, c4⟩; have b4 := b3.trans (c4.mono b3.size))
      | (go_at_call 25; refine (hMo _ _ rw4).mono ?_; rintro e w5 ⟨⟨v5, rfl, own5⟩, c5⟩; have b5 := b4.trans (c5.mono b4.size))
      | (go_at_call 15; refine (hWr _ _ own5).mono ?_; rintro e w6 ⟨rfl, c6⟩; have b6 := b5.trans (c6.mono b5.size))
      | (go_at_call 14; refine (num_any _ _).mono ?_; rintro e w9 ⟨rfl, rfl⟩)
      | (go_at_call 18; refine (hK _).mono ?_; rintro e w9 ⟨rfl, rfl⟩))
    go_ret
    exact ⟨rfl, b7⟩
  · have hK := fun w => known_any 0 w
    have z1 : (e0 == 4) = false := by simpa using he
    go_enter Tryz.func6, Tryz.ntmps6
    go_wp2_with (first
      | (go_at_call 16; refine hA.mono ?_; rintro e w0 ⟨rfl, b0⟩)
      | (go_at_call 12; first
          | (with_reducible refine (hP _ (tab_up ht b0 b0.size)).mono ?_; rintro e w1 ⟨rfl, c1⟩; have b1 := b0.trans (c1.mono b0.size))
          | (with_reducible refine (hQ _ (tab_up ht b6 b6.size)).mono ?_; rintro e w7 ⟨rfl, c7⟩; have b7 := b6.trans (c7.mono b6.size)))
      | (go_at_call 17; refine (hR _).mono ?_; rintro e w3 ⟨rfl, c3⟩; have b3 := b2.trans (c3.mono b2.size); have rw3 := rw2.below c3)
      | (go_at_call 22; refine (hT _).mono ?_; rintro e w2 ⟨⟨v, rfl, rw2⟩, c2⟩; have b2 := b1.trans (c2.mono b1.size))
      | (go_at_call 24; refine (hTu _ _ rw3).mono ?_; rintro e w4 ⟨⟨v4, rfl, rw4⟩, c4⟩; have b4 := b3.trans (c4.mono b3.size))
      | (go_at_call 25; refine (hMo _ _ rw4).mono ?_; rintro e w5 ⟨⟨v5, rfl, own5⟩, c5⟩; have b5 := b4.trans (c5.mono b4.size))
      | (go_at_call 15; refine (hWr _ _ own5).mono ?_; rintro e w6 ⟨rfl, c6⟩; have b6 := b5.trans (c6.mono b5.size))
      | (go_at_call 14; refine (num_any _ _).mono ?_; rintro e w9 ⟨rfl, rfl⟩)
      | (go_at_call 18; refine (hK _).mono ?_; rintro e w9 ⟨rfl, rfl⟩))
    go_ret
    exact ⟨rfl, b7⟩
  · have hK := fun w => known_any 0 w
    have z1 : (e0 == 4) = false := by simpa using he
    go_enter Tryz.func6, Tryz.ntmps6
    go_wp2_with (first
      | (go_at_call 16; refine hA.mono ?_; rintro e w0 ⟨rfl, b0⟩)
      | (go_at_call 12; first
          | (with_reducible refine (hP _ (tab_up ht b0 b0.size)).mono ?_; rintro e w1 ⟨rfl, c1⟩; have b1 := b0.trans (c1.mono b0.size))
          | (with_reducible refine (hQ _ (tab_up ht b6 b6.size)).mono ?_; rintro e w7 ⟨rfl, c7⟩; have b7 := b6.trans (c7.mono b6.size)))
      | (go_at_call 17; refine (hR _).mono ?_; rintro e w3 ⟨rfl, c3⟩; have b3 := b2.trans (c3.mono b2.size); have rw3 := rw2.below c3)
      | (go_at_call 22; refine (hT _).mono ?_; rintro e w2 ⟨⟨v, rfl, rw2⟩, c2⟩; have b2 := b1.trans (c2.mono b1.size))
      | (go_at_call 24; refine (hTu _ _ rw3).mono ?_; rintro e w4 ⟨⟨v4, rfl, rw4⟩, c4⟩; have b4 := b3.trans (c4.mono b3.size))
      | (go_at_call 25; refine (hMo _ _ rw4).mono ?_; rintro e w5 ⟨⟨v5, rfl, own5⟩, c5⟩; have b5 := b4.trans (c5.mono b4.size))
      | (go_at_call 15; refine (hWr _ _ own5).mono ?_; rintro e w6 ⟨rfl, c6⟩; have b6 := b5.trans (c6.mono b5.size))
      | (go_at_call 14; refine (num_any _ _).mono ?_; rintro e w9 ⟨rfl, rfl⟩)
      | (go_at_call 18; refine (hK _).mono ?_; rintro e w9 ⟨rfl, rfl⟩))
    go_ret
    exact ⟨rfl, b7⟩
  · have hK := fun w => known_any 0 w
    have z1 : (e0 == 4) = false := by simpa using he
    have z2 : (kg == 4) = false := by simpa using hg4
    have z3 : (kg == 1) = false := by simpa using hg1
    have z4 : decide ((1500 : Int) < (s.size : Int)) = true := decide_eq_true (by omega)
    go_enter Tryz.func6, Tryz.ntmps6
    go_wp2_with (first
      | (go_at_call 16; refine hA.mono ?_; rintro e w0 ⟨rfl, b0⟩)
      | (go_at_call 12; first
          | (with_reducible refine (hP _ (tab_up ht b0 b0.size)).mono ?_; rintro e w1 ⟨rfl, c1⟩; have b1 := b0.trans (c1.mono b0.size))
          | (with_reducible refine (hQ _ (tab_up ht b6 b6.size)).mono ?_; rintro e w7 ⟨rfl, c7⟩; have b7 := b6.trans (c7.mono b6.size)))
      | (go_at_call 17; refine (hR _).mono ?_; rintro e w3 ⟨rfl, c3⟩; have b3 := b2.trans (c3.mono b2.size); have rw3 := rw2.below c3)
      | (go_at_call 22; refine (hT _).mono ?_; rintro e w2 ⟨⟨v, rfl, rw2⟩, c2⟩; have b2 := b1.trans (c2.mono b1.size))
      | (go_at_call 24; refine (hTu _ _ rw3).mono ?_; rintro e w4 ⟨⟨v4, rfl, rw4⟩, c4⟩; have b4 := b3.trans (c4.mono b3.size))
      | (go_at_call 25; refine (hMo _ _ rw4).mono ?_; rintro e w5 ⟨⟨v5, rfl, own5⟩, c5⟩; have b5 := b4.trans (c5.mono b4.size))
      | (go_at_call 15; refine (hWr _ _ own5).mono ?_; rintro e w6 ⟨rfl, c6⟩; have b6 := b5.trans (c6.mono b5.size))
      | (go_at_call 14; refine (num_any _ _).mono ?_; rintro e w9 ⟨rfl, rfl⟩)
      | (go_at_call 18; refine (hK _).mono ?_; rintro e w9 ⟨rfl, rfl⟩))
    go_ret
    exact ⟨rfl, b7⟩
  · have hK := fun w => known_any e0 w
    have z0 : (e0 == 0) = false := by simpa using hg0
    rw [z0] at hK
    have z2 : (e0 == 4) = false := by simpa using hg4
    have z3 : (e0 == 1) = false := by simpa using hg1
    go_enter Tryz.func6, Tryz.ntmps6
    go_wp2_with (first
      | (go_at_call 16; refine hA.mono ?_; rintro e w0 ⟨rfl, b0⟩)
      | (go_at_call 12; first
          | (with_reducible refine (hP _ (tab_up ht b0 b0.size)).mono ?_; rintro e w1 ⟨rfl, c1⟩; have b1 := b0.trans (c1.mono b0.size))
          | (with_reducible refine (hQ _ (tab_up ht b6 b6.size)).mono ?_; rintro e w7 ⟨rfl, c7⟩; have b7 := b6.trans (c7.mono b6.size)))
      | (go_at_call 17; refine (hR _).mono ?_; rintro e w3 ⟨rfl, c3⟩; have b3 := b2.trans (c3.mono b2.size); have rw3 := rw2.below c3)
      | (go_at_call 22; refine (hT _).mono ?_; rintro e w2 ⟨⟨v, rfl, rw2⟩, c2⟩; have b2 := b1.trans (c2.mono b1.size))
      | (go_at_call 24; refine (hTu _ _ rw3).mono ?_; rintro e w4 ⟨⟨v4, rfl, rw4⟩, c4⟩; have b4 := b3.trans (c4.mono b3.size))
      | (go_at_call 25; refine (hMo _ _ rw4).mono ?_; rintro e w5 ⟨⟨v5, rfl, own5⟩, c5⟩; have b5 := b4.trans (c5.mono b4.size))
      | (go_at_call 15; refine (hWr _ _ own5).mono ?_; rintro e w6 ⟨rfl, c6⟩; have b6 := b5.trans (c6.mono b5.size))
      | (go_at_call 14; refine (num_any _ _).mono ?_; rintro e w9 ⟨rfl, rfl⟩)
      | (go_at_call 18; refine (hK _).mono ?_; rintro e w9 ⟨rfl, rfl⟩))
    go_ret
    exact ⟨rfl, b7⟩

set_option maxRecDepth 100000 in
set_option maxHeartbeats 6400000 in
/-- Where both are told. -/
theorem turns_told (rule text s tt u : ByteArray) (n way dx dy e0 i0 kg ig : Int) (C C1 C2 D D1 D2 : List Cel) (w : World) (ht : Tab w.heap.size w) (h1 : rule.size ≤ maxLen) (h2 : text.size ≤ maxLen) (he0 : e0 = 0) (hkg : kg = 0) (hr : rightB rule text = true) (hw0 : 0 ≤ way ∧ way ≤ 7) (hdx : -1000 ≤ dx ∧ dx ≤ 1000) (hdy : -1000 ≤ dy ∧ dy ≤ 1000)
    (hP : ∀ w, Tab w.heap.size w → Calls Tryz.prog 12 #[.string rule, .string text, .int .i64 n] w fun e w' => e = .returned (.tuple #[.string s, .int .i64 e0, .int .i64 i0]) ∧ Below w.heap.size w w')
    (hQ : ∀ w, Tab w.heap.size w → Calls Tryz.prog 12 #[.string rule, .string tt, .int .i64 n] w fun e w' => e = .returned (.tuple #[.string u, .int .i64 kg, .int .i64 ig]) ∧ Below w.heap.size w w')
    (hT : ∀ w, Calls Tryz.prog 22 #[.string text] w fun e w' => (∃ v, e = .returned (.tuple #[v, .int .i64 0, .int .i64 0]) ∧ RowAt w' v C) ∧ Below w.heap.size w w')
    (hTu : ∀ v w, RowAt w v C → Calls Tryz.prog 24 #[v, .int .i64 way] w fun e w' => (∃ v', e = .returned v' ∧ RowAt w' v' C1) ∧ Below w.heap.size w w')
    (hMo : ∀ v w, RowAt w v C1 → Calls Tryz.prog 25 #[v, .int .i64 dx, .int .i64 dy] w fun e w' => (∃ v', e = .returned v' ∧ w'.ownsRow 0 44 2 v' C2.length (flatC C2)) ∧ Below w.heap.size w w')
    (hWr : ∀ v w, w.ownsRow 0 44 2 v C2.length (flatC C2) → Calls Tryz.prog 15 #[v] w fun e w' => e = .returned (.string tt) ∧ Below w.heap.size w w')
    (hTs : ∀ w, Calls Tryz.prog 22 #[.string s] w fun e w' => (∃ v, e = .returned (.tuple #[v, .int .i64 0, .int .i64 0]) ∧ RowAt w' v D) ∧ Below w.heap.size w w')
    (hTu2 : ∀ v w, RowAt w v D → Calls Tryz.prog 24 #[v, .int .i64 way] w fun e w' => (∃ v', e = .returned v' ∧ RowAt w' v' D1) ∧ Below w.heap.size w w')
    (hMo2 : ∀ v w, RowAt w v D1 → Calls Tryz.prog 25 #[v, .int .i64 dx, .int .i64 dy] w fun e w' => (∃ v', e = .returned v' ∧ w'.ownsRow 0 44 2 v' D2.length (flatC D2)) ∧ Below w.heap.size w w')
    (hWr2 : ∀ v w, w.ownsRow 0 44 2 v D2.length (flatC D2) → Calls Tryz.prog 15 #[v] w fun e w' => e = .returned (.string u) ∧ Below w.heap.size w w')
    (hl : s.size ≤ 1500) :
    Calls Tryz.prog 6 #[.string rule, .string text, .int .i64 n, .int .i64 way, .int .i64 dx, .int .i64 dy] w fun e w' => e = .returned (.bool true) ∧ Below w.heap.size w w' := by
  subst he0 hkg
  have hA := alive_any w ht
  have hR := fun w => right_any rule text w h1 h2
  rw [hr] at hR
  have y0 : decide (way < 0) = false := decide_eq_false (by omega)
  have y1 : decide (7 < way) = false := decide_eq_false (by omega)
  have y2 : decide (dx < -1000) = false := decide_eq_false (by omega)
  have y3 : decide (1000 < dx) = false := decide_eq_false (by omega)
  have y4 : decide (dy < -1000) = false := decide_eq_false (by omega)
  have y5 : decide (1000 < dy) = false := decide_eq_false (by omega)
  have hK := fun w => known_any 0 w
  have z4 : decide ((1500 : Int) < (s.size : Int)) = false := decide_eq_false (by omega)
  go_enter Tryz.func6, Tryz.ntmps6
  go_wp2_with (first
    | (go_at_call 16; refine hA.mono ?_; rintro e w0 ⟨rfl, b0⟩)
    | (go_at_call 12; first
        | (with_reducible refine (hP _ (tab_up ht b0 b0.size)).mono ?_; rintro e w1 ⟨rfl, c1⟩; have b1 := b0.trans (c1.mono b0.size))
        | (with_reducible refine (hQ _ (tab_up ht b6 b6.size)).mono ?_; rintro e w7 ⟨rfl, c7⟩; have b7 := b6.trans (c7.mono b6.size)))
    | (go_at_call 17; refine (hR _).mono ?_; rintro e w3 ⟨rfl, c3⟩; have b3 := b2.trans (c3.mono b2.size); have rw3 := rw2.below c3)
    | (go_at_call 22; first
        | (with_reducible refine (hT _).mono ?_; rintro e w2 ⟨⟨v, rfl, rw2⟩, c2⟩; have b2 := b1.trans (c2.mono b1.size))
        | (with_reducible refine (hTs _).mono ?_; rintro e w10 ⟨⟨v10, rfl, rw10⟩, c10⟩; have b10 := b7.trans (c10.mono b7.size)))
    | (go_at_call 24; first
        | (with_reducible refine (hTu _ _ rw3).mono ?_; rintro e w4 ⟨⟨v4, rfl, rw4⟩, c4⟩; have b4 := b3.trans (c4.mono b3.size))
        | (with_reducible refine (hTu2 _ _ rw10).mono ?_; rintro e w11 ⟨⟨v11, rfl, rw11⟩, c11⟩; have b11 := b10.trans (c11.mono b10.size)))
    | (go_at_call 25; first
        | (with_reducible refine (hMo _ _ rw4).mono ?_; rintro e w5 ⟨⟨v5, rfl, own5⟩, c5⟩; have b5 := b4.trans (c5.mono b4.size))
        | (with_reducible refine (hMo2 _ _ rw11).mono ?_; rintro e w12 ⟨⟨v12, rfl, own12⟩, c12⟩; have b12 := b11.trans (c12.mono b11.size)))
    | (go_at_call 15; first
        | (with_reducible refine (hWr _ _ own5).mono ?_; rintro e w6 ⟨rfl, c6⟩; have b6 := b5.trans (c6.mono b5.size))
        | (with_reducible refine (hWr2 _ _ own12).mono ?_; rintro e w13 ⟨rfl, c13⟩; have b13 := b12.trans (c13.mono b12.size)))
    | (go_at_call 14; refine (num_any _ _).mono ?_; rintro e w9 ⟨rfl, rfl⟩)
    | (go_at_call 18; refine (hK _).mono ?_; rintro e w9 ⟨rfl, rfl⟩))
  go_ret
  exact ⟨rfl, b13⟩

/-- The law Turns. -/
theorem turns_walk (rule text : ByteArray) (n way dx dy : Int) (h1 : rule.size ≤ maxLen) (h2 : text.size ≤ maxLen) (w : World) (ht : Tab w.heap.size w) :
    Calls Tryz.prog 6 #[.string rule, .string text, .int .i64 n, .int .i64 way, .int .i64 dx, .int .i64 dy] w fun e w' => e = .returned (.bool true) ∧ Below w.heap.size w w' := by
  have hP := fun w ht => step_any rule text n w h1 h2 ht
  cases hrb : rightB rule text with
  | false =>
    have hk : (stepA rule text n).2.1 ≠ 0 := fun h => by
      obtain ⟨f, g, C, D, a, b, _⟩ := stepA_ok h
      unfold rightB at hrb
      rw [a] at hrb
      simp only [b] at hrb
      cases hrb
    rw [stepA_bad hk] at hP
    obtain ⟨k2, i2, hT⟩ : ∃ k2 i2, ∀ w, Calls Tryz.prog 22 #[.string text] w fun e w' => (∃ v, e = .returned (.tuple #[v, .int .i64 k2, .int .i64 i2])) ∧ Below w.heap.size w w' := by
      cases hp : patR text with
      | inl x =>
        obtain ⟨k, i⟩ := x
        refine ⟨k, i, fun w => (refRead_any text w h2).mono fun e w' h => ?_⟩
        unfold RefPat at h; rw [hp] at h; exact ⟨⟨_, h.2⟩, h.1⟩
      | inr C =>
        refine ⟨0, 0, fun w => (refRead_any text w h2).mono fun e w' h => ?_⟩
        unfold RefPat at h; rw [hp] at h; obtain ⟨hb, v, he, _⟩ := h; exact ⟨⟨v, he⟩, hb⟩
    exact turns_wrong rule text n way dx dy _ _ k2 i2 w ht h1 h2 hrb hk hP hT
  | true =>
    obtain ⟨f, g, C, hr, hp⟩ : ∃ f g C, ruleR rule = .inr (f, g) ∧ patR text = .inr C := by
      unfold rightB at hrb
      cases hr : ruleR rule with
      | inl x => rw [hr] at hrb; cases hrb
      | inr x =>
        obtain ⟨f, g⟩ := x
        rw [hr] at hrb
        cases hp : patR text with
        | inl x => simp only [hp] at hrb; cases hrb
        | inr C => exact ⟨f, g, C, rfl, rfl⟩
    obtain ⟨X, Y, hf, hbx⟩ := patR_tight hp
    have hrd : ∀ (x : ByteArray) (D : List Cel), x.size ≤ maxLen → patR x = .inr D → ∀ w, Calls Tryz.prog 22 #[.string x] w fun e w' => (∃ v, e = .returned (.tuple #[v, .int .i64 0, .int .i64 0]) ∧ RowAt w' v D) ∧ Below w.heap.size w w' := fun x D hx hpD w => (refRead_any x w hx).mono fun e w' h => by
      unfold RefPat at h; rw [hpD] at h; obtain ⟨hb, v, he, own⟩ := h; exact ⟨⟨v, he, RowAt.of_owns own⟩, hb⟩
    by_cases hin : (0 ≤ way ∧ way ≤ 7) ∧ (-1000 ≤ dx ∧ dx ≤ 1000) ∧ (-1000 ≤ dy ∧ dy ≤ 1000)
    rotate_left
    · have hT : ∀ w, Calls Tryz.prog 22 #[.string text] w fun e w' => (∃ v, e = .returned (.tuple #[v, .int .i64 0, .int .i64 0])) ∧ Below w.heap.size w w' := fun w => (hrd text C h2 hp w).mono fun e w' ⟨⟨v, he, _⟩, hb⟩ => ⟨⟨v, he⟩, hb⟩
      by_cases hk : (stepA rule text n).2.1 = 0
      · obtain ⟨_, _, _, D, _, _, _, hA⟩ := stepA_ok hk
        rw [hA] at hP
        exact turns_outO rule text ⟨(plainB D).toArray⟩ n way dx dy w ht h1 h2 hrb (plain_ne' D) hP hT (by omega)
      · rw [stepA_bad hk] at hP
        exact turns_outE rule text n way dx dy _ _ w ht h1 h2 hrb hk hP hT (by omega)
    obtain ⟨⟨q1, q2⟩, hdx, hdy⟩ := hin
    obtain ⟨k, rfl⟩ : ∃ k : Nat, way = (k : Int) := ⟨way.toNat, by omega⟩
    have hk8 : k < 8 := by omega
    have hTu : ∀ (D : List Cel) X Y, Fine D X Y → ∀ v w, RowAt w v D → Calls Tryz.prog 24 #[v, .int .i64 (k : Int)] w fun e w' => (∃ v', e = .returned v' ∧ RowAt w' v' (imgL (turnC k) D)) ∧ Below w.heap.size w w' := fun D X Y hf v w hr => (rturned_any v D k hk8 w hr (by have := hf.len; omega) (turnable_fine hf)).mono fun e w' ⟨⟨v', he, own⟩, hb⟩ => ⟨⟨v', he, RowAt.of_owns own⟩, hb⟩
    obtain ⟨ψ0, hm0⟩ := mot_turn k
    have hMo : ∀ (D : List Cel) X Y, Fine D X Y → ∀ v w, RowAt w v (imgL (turnC k) D) → Calls Tryz.prog 25 #[v, .int .i64 dx, .int .i64 dy] w fun e w' => (∃ v', e = .returned v' ∧ w'.ownsRow 0 44 2 v' (imgL (tmC k dx dy) D).length (flatC (imgL (tmC k dx dy) D))) ∧ Below w.heap.size w w' := fun D X Y hf v w hr => (rmoved_any v (imgL (turnC k) D) dx dy w hr (by rw [hm0.len hf.asc]; have := hf.len; omega) (turned_fits hf hk8 hdx hdy)).mono fun e w' ⟨⟨v', he, own⟩, hb⟩ => by
      rw [imgL_tm] at own
      exact ⟨⟨v', he, ownsRow_up own (Nat.zero_le _)⟩, hb⟩
    have hWr : ∀ (D : List Cel) X Y, Fine D X Y → ∀ v w, w.ownsRow 0 44 2 v (imgL (tmC k dx dy) D).length (flatC (imgL (tmC k dx dy) D)) → Calls Tryz.prog 15 #[v] w fun e w' => e = .returned (.string ⟨(plainB (imgL (tmC k dx dy) D)).toArray⟩) ∧ Below w.heap.size w w' := fun D X Y hf v w own => by
      obtain ⟨X', Y', hw⟩ := turned_fine hf hk8 hdx hdy
      exact write_anyW X' Y' 0 v _ w own hw
    obtain ⟨X', Y', hfw⟩ := turned_fine hf hk8 hdx hdy
    have hsm := plain_smallW hfw
    have hz : ∀ D : List Cel, (⟨(plainB D).toArray⟩ : ByteArray).size = (plainB D).length := fun D => by show (plainB D).toArray.size = _; simp
    have h3 : (⟨(plainB (imgL (tmC k dx dy) C)).toArray⟩ : ByteArray).size ≤ maxLen := by rw [hz]; unfold maxLen; omega
    have hQ := fun w ht => step_any rule ⟨(plainB (imgL (tmC k dx dy) C)).toArray⟩ n w h1 h3 ht
    obtain ⟨ψ, hm, hl1, hl2⟩ := tm_back k dx dy
    have hlet := fun hq => turns_let rule text (stepA rule text n).1 ⟨(plainB (imgL (tmC k dx dy) C)).toArray⟩ (stepA rule ⟨(plainB (imgL (tmC k dx dy) C)).toArray⟩ n).1 n (k : Int) dx dy (stepA rule text n).2.1 (stepA rule text n).2.2 (stepA rule ⟨(plainB (imgL (tmC k dx dy) C)).toArray⟩ n).2.1 (stepA rule ⟨(plainB (imgL (tmC k dx dy) C)).toArray⟩ n).2.2 C (imgL (turnC k) C) (imgL (tmC k dx dy) C) w ht h1 h2 hrb ⟨q1, q2⟩ hdx hdy hP hQ (hrd text C h2 hp) (hTu C X Y hf) (hMo C X Y hf) (hWr C X Y hf) hq
    by_cases he4 : (stepA rule text n).2.1 = 4
    · exact hlet (.inl he4)
    by_cases hlen : (plainB (imgL (tmC k dx dy) C)).length ≤ 1500
    rotate_left
    · refine hlet (.inr (.inr (.inl ⟨he4, ?_⟩)))
      unfold stepA
      rw [hr]
      simp only [patR_long hlen]
    cases hfT : farL (imgL (tmC k dx dy) C) with
    | true =>
      refine hlet (.inr (.inl ⟨he4, ?_⟩))
      unfold stepA
      rw [hr]
      simp only [patR_beyond hfw hfT hlen]
    | false =>
      have hpT := patR_plain hfw.asc hfw.len hfT hlen
      have eA := stepA_of (n := n) hr hp
      have eB := stepA_of (n := n) hr hpT
      by_cases hn : n < 0 ∨ 1000000000000000000 < n
      · refine hlet (.inr (.inr (.inr (.inr ?_))))
        have a1 : afterR f g C n = .inl 6 := by unfold afterR; rw [if_pos hn]
        have a2 : afterR f g (imgL (tmC k dx dy) C) n = .inl 6 := by unfold afterR; rw [if_pos hn]
        rw [eA, eB, a1, a2]
        exact ⟨rfl, by decide, by decide, by decide, rfl, rfl⟩
      have hre := reachR_img hm hl1 hl2 f g hf.asc (n := n) (by omega)
      cases hR : reachR f g C n with
      | inl e =>
        rw [hR] at hre
        have a1 : afterR f g C n = .inl e := by unfold afterR; rw [if_neg hn, hR]
        have a2 : afterR f g (imgL (tmC k dx dy) C) n = .inl e := by unfold afterR; rw [if_neg hn, hre]
        have hee := reachR_err hR
        refine hlet (.inr (.inr (.inr (.inr ?_))))
        rw [eA, eB, a1, a2]
        exact ⟨rfl, by show e ≠ 0; omega, by show e ≠ 4; omega, by show e ≠ 1; omega, rfl, rfl⟩
      | inr D =>
        rw [hR] at hre
        simp only at hre
        have a1 : afterR f g C n = if farL D = true then .inl 4 else .inr D := by unfold afterR; rw [if_neg hn, hR]
        have a2 : afterR f g (imgL (tmC k dx dy) C) n = if farL (imgL (tmC k dx dy) D) = true then .inl 4 else .inr (imgL (tmC k dx dy) D) := by unfold afterR; rw [if_neg hn, hre]
        cases hfD : farL D with
        | true =>
          refine absurd ?_ he4
          rw [eA, a1, hfD]
          rfl
        | false =>
          rw [hfD] at a1
          simp only [if_false, Bool.false_eq_true] at a1
          rw [a1] at eA
          simp only at eA
          cases hfE : farL (imgL (tmC k dx dy) D) with
          | true =>
            refine hlet (.inr (.inl ⟨he4, ?_⟩))
            rw [eB, a2, hfE]
            rfl
          | false =>
            rw [hfE] at a2
            simp only [if_false, Bool.false_eq_true] at a2
            rw [a2] at eB
            simp only at eB
            obtain ⟨X1, Y1, fD⟩ := afterR_fine hf hbx a1
            by_cases hls : (plainB D).length ≤ 1500
            rotate_left
            · refine hlet (.inr (.inr (.inr (.inl ?_))))
              rw [eA, eB]
              exact ⟨by show (0 : Int) ≠ 4; decide, by show (0 : Int) ≠ 4; decide, by show (0 : Int) ≠ 1; decide, by show 1500 < (⟨(plainB D).toArray⟩ : ByteArray).size; rw [hz]; omega⟩
            have hpD := patR_plain fD.asc fD.len hfD hls
            have hsD : (⟨(plainB D).toArray⟩ : ByteArray).size ≤ maxLen := by rw [hz]; unfold maxLen; omega
            rw [eA] at hP
            rw [eB] at hQ
            exact turns_told rule text ⟨(plainB D).toArray⟩ ⟨(plainB (imgL (tmC k dx dy) C)).toArray⟩ ⟨(plainB (imgL (tmC k dx dy) D)).toArray⟩ n (k : Int) dx dy 0 0 0 0 C (imgL (turnC k) C) (imgL (tmC k dx dy) C) D (imgL (turnC k) D) (imgL (tmC k dx dy) D) w ht h1 h2 rfl rfl hrb ⟨q1, q2⟩ hdx hdy hP hQ (hrd text C h2 hp) (hTu C X Y hf) (hMo C X Y hf) (hWr C X Y hf) (hrd _ D hsD hpD) (hTu D X1 Y1 fD) (hMo D X1 Y1 fD) (hWr D X1 Y1 fD) (by rw [hz]; exact hls)

end Go.Proofs.YtiohpcnnpmnjhaaGreatDoor
