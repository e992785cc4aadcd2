import Derived.Test.YtiohpcnnpmnjhaaGreatDoorOnward
import Derived.Test.YtiohpcnnpmnjhaaGreatDoorRefWrite
import Derived.Test.YtiohpcnnpmnjhaaGreatDoorLfbM
namespace Go.Proofs.YtiohpcnnpmnjhaaGreatDoor
open Go.RowKit Go.Shelf
set_option linter.unusedVariables false

theorem eqIn_cyc0 (w : World) : (Op.equalIn 10000 37 (.agg #[.int .i64 0, .int .i64 0, .int .i64 0, .int .i64 0]) (.agg #[.int .i64 0, .int .i64 0, .int .i64 0, .int .i64 0])).run Tryz.prog w = .ok true w := by
  have u3 := Tryz.underlying3
  have a3 := Tryz.isAgg3
  have z3 := Tryz.sizeOf3
  rw [show (10000 : Nat) = 9999 + 1 from rfl, Op.equalIn]
  simp only [Sem.run_bind, run_underlying Tryz.underlying37, Result.andThen_ok]
  go_simp

set_option maxRecDepth 100000 in
set_option maxHeartbeats 800000 in
/-- The plain text of what a text tells, moved. -/
theorem shifted_any (s : ByteArray) (D : List Cel) (dx dy X Y : Int) (w : World) (hs : s.size ≤ maxLen) (hp : patR s = .inr D) (hF : Fits dx dy D) (hl : D.length ≤ 100) (hf : Fine (D.map (sh dx dy)) X Y) :
    Calls Tryz.prog 21 #[.string s, .int .i64 dx, .int .i64 dy] w fun e w' => e = .returned (.tuple #[.string ⟨(plainB (D.map (sh dx dy))).toArray⟩, .bool true]) ∧ Below w.heap.size w w' := by
  have hR : ∀ w, Calls Tryz.prog 22 #[.string s] w fun e w' => (∃ v, e = .returned (.tuple #[v, .int .i64 0, .int .i64 0]) ∧ w'.ownsRow w.heap.size 44 2 v D.length (flatC D)) ∧ Below w.heap.size w w' := fun w => (refRead_any s w hs).mono fun e w' h => by
    unfold RefPat at h; rw [hp] at h; exact ⟨h.2, h.1⟩
  have hM := fun v (w : World) (r : RowAt w v D) => rmoved_any v D dx dy w r (by omega) hF
  have hW := fun B v w own => write_any X Y B v (D.map (sh dx dy)) w own hf
  generalize D.map (sh dx dy) = E at *
  clear hp
  go_enter Tryz.func21, Tryz.ntmps21
  go_wp2_with (first
    | (go_at_call 22; refine (hR _).mono ?_; rintro e w1 ⟨⟨v, rfl, own⟩, b1⟩)
    | (go_at_call 25; refine (hM _ _ (RowAt.of_owns own)).mono ?_; rintro e w2 ⟨⟨v2, rfl, own2⟩, b2⟩)
    | (go_at_call 15; refine (hW _ _ _ own2).mono ?_; rintro e w3 ⟨rfl, b3⟩))
  go_ret2
  exact ⟨rfl, (b1.trans (b2.mono b1.size)).trans (b3.mono (Nat.le_trans b1.size b2.size))⟩

set_option maxRecDepth 100000 in
set_option maxHeartbeats 1600000 in
/-- Where Orbit tells an error. -/
theorem comes_err (rule text : ByteArray) (j k e0 i0 : Int) (w : World) (ht : Tab w.heap.size w) (h1 : rule.size ≤ maxLen) (h2 : text.size ≤ maxLen) (he : e0 ≠ 0) (hq : rightB rule text = true → e0 = 5 ∨ e0 = 7)
    (hO : ∀ w, Calls Tryz.prog 20 #[.string rule, .string text] w fun e w' => e = .returned (.tuple #[.agg #[.int .i64 0, .int .i64 0, .int .i64 0, .int .i64 0], .int .i64 e0, .int .i64 i0]) ∧ Below w.heap.size w w') :
    Calls Tryz.prog 5 #[.string rule, .string text, .int .i64 j, .int .i64 k] w fun e w' => e = .returned (.bool true) ∧ Below w.heap.size w w' := by
  have he0 : (e0 == 0) = false := by simpa using he
  have hA := alive_any w ht
  have hR := fun w => right_any rule text w h1 h2
  have hK := fun w => known_any e0 w
  rw [he0] at hK
  have heq := fun w => eqIn_cyc0 w
  cases hrb : rightB rule text with
  | false =>
    rw [hrb] at hR
    go_enter Tryz.func5, Tryz.ntmps5
    go_wp2_with (first
      | (go_at_call 16; refine hA.mono ?_; rintro e w0 ⟨rfl, b0⟩)
      | (go_at_call 20; refine (hO _).mono ?_; rintro e w1 ⟨rfl, c1⟩; have b1 := (b0.trans (c1.mono b0.size)).alloc (Nat.le_trans b0.size c1.size) (.cells #[.int .i64 0, .int .i64 0, .int .i64 0, .int .i64 0] 37); have t5 := blk_new w1 (.cells #[.int .i64 0, .int .i64 0, .int .i64 0, .int .i64 0] 37))
      | (go_at_call 18; refine (hK _).mono ?_; rintro e w3 ⟨rfl, rfl⟩)
      | (go_at_call 14; refine (num_any _ _).mono ?_; rintro e w3 ⟨rfl, rfl⟩)
      | (go_at_call 17; refine (hR _).mono ?_; rintro e w2 ⟨rfl, c2⟩; have b2 := b1.trans (c2.mono b1.size); have t6 := (c2.block _ (blk_lt t5)).trans t5; have n0 := cell_of t6 0; have n1 := cell_of t6 1; have n2 := cell_of t6 2; have n3 := cell_of t6 3))
    go_ret
    exact ⟨rfl, b2⟩
  | true =>
    rw [hrb] at hR
    rcases hq hrb with rfl | rfl
    · skip
      go_enter Tryz.func5, Tryz.ntmps5
      go_wp2_with (first
        | (go_at_call 16; refine hA.mono ?_; rintro e w0 ⟨rfl, b0⟩)
        | (go_at_call 20; refine (hO _).mono ?_; rintro e w1 ⟨rfl, c1⟩; have b1 := (b0.trans (c1.mono b0.size)).alloc (Nat.le_trans b0.size c1.size) (.cells #[.int .i64 0, .int .i64 0, .int .i64 0, .int .i64 0] 37); have t5 := blk_new w1 (.cells #[.int .i64 0, .int .i64 0, .int .i64 0, .int .i64 0] 37))
        | (go_at_call 18; refine (hK _).mono ?_; rintro e w3 ⟨rfl, rfl⟩)
        | (go_at_call 14; refine (num_any _ _).mono ?_; rintro e w3 ⟨rfl, rfl⟩)
        | (go_at_call 17; refine (hR _).mono ?_; rintro e w2 ⟨rfl, c2⟩; have b2 := b1.trans (c2.mono b1.size); have t6 := (c2.block _ (blk_lt t5)).trans t5; have n0 := cell_of t6 0; have n1 := cell_of t6 1; have n2 := cell_of t6 2; have n3 := cell_of t6 3))
      go_ret
      exact ⟨rfl, b2⟩
    · skip
      go_enter Tryz.func5, Tryz.ntmps5
      go_wp2_with (first
        | (go_at_call 16; refine hA.mono ?_; rintro e w0 ⟨rfl, b0⟩)
        | (go_at_call 20; refine (hO _).mono ?_; rintro e w1 ⟨rfl, c1⟩; have b1 := (b0.trans (c1.mono b0.size)).alloc (Nat.le_trans b0.size c1.size) (.cells #[.int .i64 0, .int .i64 0, .int .i64 0, .int .i64 0] 37); have t5 := blk_new w1 (.cells #[.int .i64 0, .int .i64 0, .int .i64 0, .int .i64 0] 37))
        | (go_at_call 18; refine (hK _).mono ?_; rintro e w3 ⟨rfl, rfl⟩)
        | (go_at_call 14; refine (num_any _ _).mono ?_; rintro e w3 ⟨rfl, rfl⟩)
        | (go_at_call 17; refine (hR _).mono ?_; rintro e w2 ⟨rfl, c2⟩; have b2 := b1.trans (c2.mono b1.size); have t6 := (c2.block _ (blk_lt t5)).trans t5; have n0 := cell_of t6 0; have n1 := cell_of t6 1; have n2 := cell_of t6 2; have n3 := cell_of t6 3))
      go_ret
      exact ⟨rfl, b2⟩

set_option maxRecDepth 100000 in
set_option maxHeartbeats 3200000 in
/-- Where j or k is out of range. -/
theorem comes_out (rule text : ByteArray) (j k p q d1 d2 : Int) (w : World) (ht : Tab w.heap.size w) (hp : 0 ≤ p) (hq1 : 1 ≤ q) (hpq : p + q ≤ 200) (hq : j < 0 ∨ k < 0 ∨ q ≤ j ∨ 1000000 < k)
    (hO : ∀ w, Calls Tryz.prog 20 #[.string rule, .string text] w fun e w' => e = .returned (.tuple #[.agg #[.int .i64 p, .int .i64 q, .int .i64 d1, .int .i64 d2], .int .i64 0, .int .i64 0]) ∧ Below w.heap.size w w') :
    Calls Tryz.prog 5 #[.string rule, .string text, .int .i64 j, .int .i64 k] w fun e w' => e = .returned (.bool true) ∧ Below w.heap.size w w' := by
  have hA := alive_any w ht
  have hK := fun w => known_any 0 w
  have x1 : decide (p < 0) = false := decide_eq_false (by omega)
  have x2 : decide (q < 1) = false := decide_eq_false (by omega)
  have x3 : decide (200 < p + q) = false := decide_eq_false (by omega)
  by_cases hj : j < 0
  · have y1 : decide (j < 0) = true := decide_eq_true hj
    go_enter Tryz.func5, Tryz.ntmps5
    go_wp2_with (first
      | (go_at_call 16; refine hA.mono ?_; rintro e w0 ⟨rfl, b0⟩)
      | (go_at_call 20; refine (hO _).mono ?_; rintro e w1 ⟨rfl, c1⟩; have b1 := (b0.trans (c1.mono b0.size)).alloc (Nat.le_trans b0.size c1.size) (.cells #[.int .i64 p, .int .i64 q, .int .i64 d1, .int .i64 d2] 37); have t5 := blk_new w1 (.cells #[.int .i64 p, .int .i64 q, .int .i64 d1, .int .i64 d2] 37); have n0 := cell_of t5 0; have n1 := cell_of t5 1)
      | (go_at_call 18; refine (hK _).mono ?_; rintro e w3 ⟨rfl, rfl⟩))
    go_ret
    exact ⟨rfl, b1⟩
  have y1 : decide (j < 0) = false := decide_eq_false hj
  by_cases hk : k < 0
  · have y2 : decide (k < 0) = true := decide_eq_true hk
    go_enter Tryz.func5, Tryz.ntmps5
    go_wp2_with (first
      | (go_at_call 16; refine hA.mono ?_; rintro e w0 ⟨rfl, b0⟩)
      | (go_at_call 20; refine (hO _).mono ?_; rintro e w1 ⟨rfl, c1⟩; have b1 := (b0.trans (c1.mono b0.size)).alloc (Nat.le_trans b0.size c1.size) (.cells #[.int .i64 p, .int .i64 q, .int .i64 d1, .int .i64 d2] 37); have t5 := blk_new w1 (.cells #[.int .i64 p, .int .i64 q, .int .i64 d1, .int .i64 d2] 37); have n0 := cell_of t5 0; have n1 := cell_of t5 1)
      | (go_at_call 18; refine (hK _).mono ?_; rintro e w3 ⟨rfl, rfl⟩))
    go_ret
    exact ⟨rfl, b1⟩
  have y2 : decide (k < 0) = false := decide_eq_false hk
  by_cases hjq : q ≤ j
  · have y3 : decide (q ≤ j) = true := decide_eq_true hjq
    go_enter Tryz.func5, Tryz.ntmps5
    go_wp2_with (first
      | (go_at_call 16; refine hA.mono ?_; rintro e w0 ⟨rfl, b0⟩)
      | (go_at_call 20; refine (hO _).mono ?_; rintro e w1 ⟨rfl, c1⟩; have b1 := (b0.trans (c1.mono b0.size)).alloc (Nat.le_trans b0.size c1.size) (.cells #[.int .i64 p, .int .i64 q, .int .i64 d1, .int .i64 d2] 37); have t5 := blk_new w1 (.cells #[.int .i64 p, .int .i64 q, .int .i64 d1, .int .i64 d2] 37); have n0 := cell_of t5 0; have n1 := cell_of t5 1)
      | (go_at_call 18; refine (hK _).mono ?_; rintro e w3 ⟨rfl, rfl⟩))
    go_ret
    exact ⟨rfl, b1⟩
  have y3 : decide (q ≤ j) = false := decide_eq_false hjq
  have hk6 : 1000000 < k := by omega
  have y4 : decide (1000000 < k) = true := decide_eq_true hk6
  go_enter Tryz.func5, Tryz.ntmps5
  go_wp2_with (first
    | (go_at_call 16; refine hA.mono ?_; rintro e w0 ⟨rfl, b0⟩)
    | (go_at_call 20; refine (hO _).mono ?_; rintro e w1 ⟨rfl, c1⟩; have b1 := (b0.trans (c1.mono b0.size)).alloc (Nat.le_trans b0.size c1.size) (.cells #[.int .i64 p, .int .i64 q, .int .i64 d1, .int .i64 d2] 37); have t5 := blk_new w1 (.cells #[.int .i64 p, .int .i64 q, .int .i64 d1, .int .i64 d2] 37); have n0 := cell_of t5 0; have n1 := cell_of t5 1)
    | (go_at_call 18; refine (hK _).mono ?_; rintro e w3 ⟨rfl, rfl⟩))
  go_ret
  exact ⟨rfl, b1⟩

set_option maxRecDepth 100000 in
set_option maxHeartbeats 3200000 in
/-- Where a generation is beyond the border, or its text too long. -/
theorem comes_far (rule text s1 t1 : ByteArray) (j k p q d1 d2 kq k1 k2 : Int) (w : World) (ht : Tab w.heap.size w) (hp : 0 ≤ p) (hq1 : 1 ≤ q) (hpq : p + q ≤ 200) (hj0 : 0 ≤ j) (hj1 : j < q) (hk0 : 0 ≤ k) (hk1 : k ≤ 1000000) (hkq : IntKind.i64.wrap (k * q) = kq) (hkq0 : 0 ≤ kq ∧ kq ≤ 200000000)
    (hO : ∀ w, Calls Tryz.prog 20 #[.string rule, .string text] w fun e w' => e = .returned (.tuple #[.agg #[.int .i64 p, .int .i64 q, .int .i64 d1, .int .i64 d2], .int .i64 0, .int .i64 0]) ∧ Below w.heap.size w w')
    (hS1 : ∀ w, Tab w.heap.size w → Calls Tryz.prog 12 #[.string rule, .string text, .int .i64 (p + j)] w fun e w' => e = .returned (.tuple #[.string s1, .int .i64 k1, .int .i64 0]) ∧ Below w.heap.size w w')
    (hS2 : ∀ w, Tab w.heap.size w → Calls Tryz.prog 12 #[.string rule, .string text, .int .i64 (p + j + kq)] w fun e w' => e = .returned (.tuple #[.string t1, .int .i64 k2, .int .i64 0]) ∧ Below w.heap.size w w')
    (hq : k1 = 4 ∨ (k1 = 0 ∧ k2 = 4) ∨ (k1 = 0 ∧ k2 = 0 ∧ 1500 < s1.size)) :
    Calls Tryz.prog 5 #[.string rule, .string text, .int .i64 j, .int .i64 k] w fun e w' => e = .returned (.bool true) ∧ Below w.heap.size w w' := by
  have hA := alive_any w ht
  have hK := fun w => known_any 0 w
  have x1 : decide (p < 0) = false := decide_eq_false (by omega)
  have x2 : decide (q < 1) = false := decide_eq_false (by omega)
  have x3 : decide (200 < p + q) = false := decide_eq_false (by omega)
  have y1 : decide (j < 0) = false := decide_eq_false (by omega)
  have y2 : decide (k < 0) = false := decide_eq_false (by omega)
  have y3 : decide (q ≤ j) = false := decide_eq_false (by omega)
  have y4 : decide (1000000 < k) = false := decide_eq_false (by omega)
  rcases hq with rfl | ⟨rfl, rfl⟩ | ⟨rfl, rfl, hl⟩
  · skip
    go_enter Tryz.func5, Tryz.ntmps5
    go_wp2_with (first
      | (go_at_call 16; refine hA.mono ?_; rintro e w0 ⟨rfl, b0⟩)
      | (go_at_call 20; refine (hO _).mono ?_; rintro e w1 ⟨rfl, c1⟩; have b1 := (b0.trans (c1.mono b0.size)).alloc (Nat.le_trans b0.size c1.size) (.cells #[.int .i64 p, .int .i64 q, .int .i64 d1, .int .i64 d2] 37); have t5 := blk_new w1 (.cells #[.int .i64 p, .int .i64 q, .int .i64 d1, .int .i64 d2] 37); have n0 := cell_of t5 0; have n1 := cell_of t5 1; have n2 := cell_of t5 2; have n3 := cell_of t5 3; have hw1 : w1.heap.size < (w1.alloc (.cells #[.int .i64 p, .int .i64 q, .int .i64 d1, .int .i64 d2] 37)).heap.size := by simp)
      | (go_at_call 12; first
          | (with_reducible refine (hS1 _ (tab_up ht b1 b1.size)).mono ?_; rintro e w2 ⟨rfl, c2⟩; have b2 := b1.trans (c2.mono b1.size); clear n0 n1 n2 n3; have t6 := (c2.block _ hw1).trans t5; have n0 := cell_of t6 0; have n1 := cell_of t6 1; have n2 := cell_of t6 2; have n3 := cell_of t6 3)
          | (with_reducible refine (hS2 _ (tab_up ht b2 b2.size)).mono ?_; rintro e w3 ⟨rfl, c3⟩; have b3 := b2.trans (c3.mono b2.size); clear n0 n1 n2 n3; have t7 := (c3.block _ (blk_lt t6)).trans t6; have n0 := cell_of t7 0; have n1 := cell_of t7 1; have n2 := cell_of t7 2; have n3 := cell_of t7 3))
      | (go_at_call 14; refine (num_any _ _).mono ?_; rintro e w9 ⟨rfl, rfl⟩)
      | (go_at_call 18; refine (hK _).mono ?_; rintro e w9 ⟨rfl, rfl⟩))
    go_ret
    exact ⟨rfl, b3⟩
  · skip
    go_enter Tryz.func5, Tryz.ntmps5
    go_wp2_with (first
      | (go_at_call 16; refine hA.mono ?_; rintro e w0 ⟨rfl, b0⟩)
      | (go_at_call 20; refine (hO _).mono ?_; rintro e w1 ⟨rfl, c1⟩; have b1 := (b0.trans (c1.mono b0.size)).alloc (Nat.le_trans b0.size c1.size) (.cells #[.int .i64 p, .int .i64 q, .int .i64 d1, .int .i64 d2] 37); have t5 := blk_new w1 (.cells #[.int .i64 p, .int .i64 q, .int .i64 d1, .int .i64 d2] 37); have n0 := cell_of t5 0; have n1 := cell_of t5 1; have n2 := cell_of t5 2; have n3 := cell_of t5 3; have hw1 : w1.heap.size < (w1.alloc (.cells #[.int .i64 p, .int .i64 q, .int .i64 d1, .int .i64 d2] 37)).heap.size := by simp)
      | (go_at_call 12; first
          | (with_reducible refine (hS1 _ (tab_up ht b1 b1.size)).mono ?_; rintro e w2 ⟨rfl, c2⟩; have b2 := b1.trans (c2.mono b1.size); clear n0 n1 n2 n3; have t6 := (c2.block _ hw1).trans t5; have n0 := cell_of t6 0; have n1 := cell_of t6 1; have n2 := cell_of t6 2; have n3 := cell_of t6 3)
          | (with_reducible refine (hS2 _ (tab_up ht b2 b2.size)).mono ?_; rintro e w3 ⟨rfl, c3⟩; have b3 := b2.trans (c3.mono b2.size); clear n0 n1 n2 n3; have t7 := (c3.block _ (blk_lt t6)).trans t6; have n0 := cell_of t7 0; have n1 := cell_of t7 1; have n2 := cell_of t7 2; have n3 := cell_of t7 3))
      | (go_at_call 14; refine (num_any _ _).mono ?_; rintro e w9 ⟨rfl, rfl⟩)
      | (go_at_call 18; refine (hK _).mono ?_; rintro e w9 ⟨rfl, rfl⟩))
    go_ret
    exact ⟨rfl, b3⟩
  · have y9 : decide ((1500 : Int) < (s1.size : Int)) = true := decide_eq_true (by omega)
    go_enter Tryz.func5, Tryz.ntmps5
    go_wp2_with (first
      | (go_at_call 16; refine hA.mono ?_; rintro e w0 ⟨rfl, b0⟩)
      | (go_at_call 20; refine (hO _).mono ?_; rintro e w1 ⟨rfl, c1⟩; have b1 := (b0.trans (c1.mono b0.size)).alloc (Nat.le_trans b0.size c1.size) (.cells #[.int .i64 p, .int .i64 q, .int .i64 d1, .int .i64 d2] 37); have t5 := blk_new w1 (.cells #[.int .i64 p, .int .i64 q, .int .i64 d1, .int .i64 d2] 37); have n0 := cell_of t5 0; have n1 := cell_of t5 1; have n2 := cell_of t5 2; have n3 := cell_of t5 3; have hw1 : w1.heap.size < (w1.alloc (.cells #[.int .i64 p, .int .i64 q, .int .i64 d1, .int .i64 d2] 37)).heap.size := by simp)
      | (go_at_call 12; first
          | (with_reducible refine (hS1 _ (tab_up ht b1 b1.size)).mono ?_; rintro e w2 ⟨rfl, c2⟩; have b2 := b1.trans (c2.mono b1.size); clear n0 n1 n2 n3; have t6 := (c2.block _ hw1).trans t5; have n0 := cell_of t6 0; have n1 := cell_of t6 1; have n2 := cell_of t6 2; have n3 := cell_of t6 3)
          | (with_reducible refine (hS2 _ (tab_up ht b2 b2.size)).mono ?_; rintro e w3 ⟨rfl, c3⟩; have b3 := b2.trans (c3.mono b2.size); clear n0 n1 n2 n3; have t7 := (c3.block _ (blk_lt t6)).trans t6; have n0 := cell_of t7 0; have n1 := cell_of t7 1; have n2 := cell_of t7 2; have n3 := cell_of t7 3))
      | (go_at_call 14; refine (num_any _ _).mono ?_; rintro e w9 ⟨rfl, rfl⟩)
      | (go_at_call 18; refine (hK _).mono ?_; rintro e w9 ⟨rfl, rfl⟩))
    go_ret
    exact ⟨rfl, b3⟩

set_option maxRecDepth 100000 in
set_option maxHeartbeats 6400000 in
/-- Where both are told. -/
theorem comes_told1 (rule text s1 t1 u1 : ByteArray) (j k p q d1 d2 kq m1 m2 k3 : Int) (A B : List Cel) (w : World) (ht : Tab w.heap.size w) (hp : 0 ≤ p) (hq1 : 1 ≤ q) (hpq : p + q ≤ 200) (hj0 : 0 ≤ j) (hj1 : j < q) (hk0 : 0 ≤ k) (hk1 : k ≤ 1000000) (hkq : IntKind.i64.wrap (k * q) = kq) (hkq0 : 0 ≤ kq ∧ kq ≤ 200000000) (hm1 : IntKind.i64.wrap (k * d1) = m1) (hm2 : IntKind.i64.wrap (k * d2) = m2)
    (hO : ∀ w, Calls Tryz.prog 20 #[.string rule, .string text] w fun e w' => e = .returned (.tuple #[.agg #[.int .i64 p, .int .i64 q, .int .i64 d1, .int .i64 d2], .int .i64 0, .int .i64 0]) ∧ Below w.heap.size w w')
    (hS1 : ∀ w, Tab w.heap.size w → Calls Tryz.prog 12 #[.string rule, .string text, .int .i64 (p + j)] w fun e w' => e = .returned (.tuple #[.string s1, .int .i64 0, .int .i64 0]) ∧ Below w.heap.size w w')
    (hS2 : ∀ w, Tab w.heap.size w → Calls Tryz.prog 12 #[.string rule, .string text, .int .i64 (p + j + kq)] w fun e w' => e = .returned (.tuple #[.string t1, .int .i64 0, .int .i64 0]) ∧ Below w.heap.size w w')
    (hS3 : ∀ w, Tab w.heap.size w → Calls Tryz.prog 12 #[.string rule, .string text, .int .i64 p] w fun e w' => e = .returned (.tuple #[.string u1, .int .i64 k3, .int .i64 0]) ∧ Below w.heap.size w w')
    (hM : ∀ w, Calls Tryz.prog 21 #[.string s1, .int .i64 m1, .int .i64 m2] w fun e w' => e = .returned (.tuple #[.string t1, .bool true]) ∧ Below w.heap.size w w')
    (hl : s1.size ≤ 1500) (h3 : 0 < j → 1500 < u1.size ∨ (u1.size ≤ 1500 ∧ k3 = 4) ∨ (u1.size ≤ 1500 ∧ k3 = 0 ∧
      (∀ w, Calls Tryz.prog 22 #[.string u1] w fun e w' => (∃ v, e = .returned (.tuple #[v, .int .i64 0, .int .i64 0]) ∧ RowAt w' v A) ∧ Below w.heap.size w w') ∧
      (∀ w, Calls Tryz.prog 22 #[.string s1] w fun e w' => (∃ v, e = .returned (.tuple #[v, .int .i64 0, .int .i64 0]) ∧ RowAt w' v B) ∧ Below w.heap.size w w') ∧
      (∀ v u w, RowAt w v A → RowAt w u B → Calls Tryz.prog 23 #[v, u] w fun e w' => (∃ x y, e = .returned (.tuple #[.agg #[.int .i64 x, .int .i64 y], .bool false])) ∧ Below w.heap.size w w'))) (hz : t1.toList = [48, 32, 48, 32, 33]) :
    Calls Tryz.prog 5 #[.string rule, .string text, .int .i64 j, .int .i64 k] w fun e w' => e = .returned (.bool true) ∧ Below w.heap.size w w' := by
  have hA := alive_any w ht
  have hK := fun w => known_any 0 w
  have x1 : decide (p < 0) = false := decide_eq_false (by omega)
  have x2 : decide (q < 1) = false := decide_eq_false (by omega)
  have x3 : decide (200 < p + q) = false := decide_eq_false (by omega)
  have y1 : decide (j < 0) = false := decide_eq_false (by omega)
  have y2 : decide (k < 0) = false := decide_eq_false (by omega)
  have y3 : decide (q ≤ j) = false := decide_eq_false (by omega)
  have y4 : decide (1000000 < k) = false := decide_eq_false (by omega)
  have y9 : decide ((1500 : Int) < (s1.size : Int)) = false := decide_eq_false (by omega)
  by_cases hjp : 0 < j
  rotate_left
  · have y5 : decide (0 < j) = false := decide_eq_false hjp
    go_enter Tryz.func5, Tryz.ntmps5
    go_wp2_with (first
      | (go_at_call 16; refine hA.mono ?_; rintro e w0 ⟨rfl, b0⟩)
      | (go_at_call 20; refine (hO _).mono ?_; rintro e w1 ⟨rfl, c1⟩; have b1 := (b0.trans (c1.mono b0.size)).alloc (Nat.le_trans b0.size c1.size) (.cells #[.int .i64 p, .int .i64 q, .int .i64 d1, .int .i64 d2] 37); have t5 := blk_new w1 (.cells #[.int .i64 p, .int .i64 q, .int .i64 d1, .int .i64 d2] 37); have n0 := cell_of t5 0; have n1 := cell_of t5 1; have n2 := cell_of t5 2; have n3 := cell_of t5 3; have hw1 : w1.heap.size < (w1.alloc (.cells #[.int .i64 p, .int .i64 q, .int .i64 d1, .int .i64 d2] 37)).heap.size := by simp)
      | (go_at_call 12; first
          | (with_reducible refine (hS1 _ (tab_up ht b1 b1.size)).mono ?_; rintro e w2 ⟨rfl, c2⟩; have b2 := b1.trans (c2.mono b1.size); clear n0 n1 n2 n3; have t6 := (c2.block _ hw1).trans t5; have n0 := cell_of t6 0; have n1 := cell_of t6 1; have n2 := cell_of t6 2; have n3 := cell_of t6 3)
          | (with_reducible refine (hS2 _ (tab_up ht b2 b2.size)).mono ?_; rintro e w3 ⟨rfl, c3⟩; have b3 := b2.trans (c3.mono b2.size); clear n0 n1 n2 n3; have t7 := (c3.block _ (blk_lt t6)).trans t6; have n0 := cell_of t7 0; have n1 := cell_of t7 1; have n2 := cell_of t7 2; have n3 := cell_of t7 3)
          | (with_reducible refine (hS3 _ (tab_up ht b4 b4.size)).mono ?_; rintro e w5 ⟨rfl, c5⟩; have b5 := b4.trans (c5.mono b4.size)))
      | (go_at_call 21; refine (hM _).mono ?_; rintro e w4 ⟨rfl, c4⟩; have b4 := b3.trans (c4.mono b3.size); clear n0 n1 n2 n3; have t8 := (c4.block _ (blk_lt t7)).trans t7; have n0 := cell_of t8 0)
      | (go_at_call 14; refine (num_any _ _).mono ?_; rintro e w9 ⟨rfl, rfl⟩)
      | (go_at_call 18; refine (hK _).mono ?_; rintro e w9 ⟨rfl, rfl⟩))
    go_ret
    exact ⟨rfl, b4⟩
  · have y5 : decide (0 < j) = true := decide_eq_true hjp
    rcases h3 hjp with hu | ⟨hu, rfl⟩ | ⟨hu, rfl, hRa, hRb, hWy⟩
    · have y6 : decide ((1500 : Int) < (u1.size : Int)) = true := decide_eq_true (by omega)
      go_enter Tryz.func5, Tryz.ntmps5
      go_wp2_with (first
        | (go_at_call 16; refine hA.mono ?_; rintro e w0 ⟨rfl, b0⟩)
        | (go_at_call 20; refine (hO _).mono ?_; rintro e w1 ⟨rfl, c1⟩; have b1 := (b0.trans (c1.mono b0.size)).alloc (Nat.le_trans b0.size c1.size) (.cells #[.int .i64 p, .int .i64 q, .int .i64 d1, .int .i64 d2] 37); have t5 := blk_new w1 (.cells #[.int .i64 p, .int .i64 q, .int .i64 d1, .int .i64 d2] 37); have n0 := cell_of t5 0; have n1 := cell_of t5 1; have n2 := cell_of t5 2; have n3 := cell_of t5 3; have hw1 : w1.heap.size < (w1.alloc (.cells #[.int .i64 p, .int .i64 q, .int .i64 d1, .int .i64 d2] 37)).heap.size := by simp)
        | (go_at_call 12; first
            | (with_reducible refine (hS1 _ (tab_up ht b1 b1.size)).mono ?_; rintro e w2 ⟨rfl, c2⟩; have b2 := b1.trans (c2.mono b1.size); clear n0 n1 n2 n3; have t6 := (c2.block _ hw1).trans t5; have n0 := cell_of t6 0; have n1 := cell_of t6 1; have n2 := cell_of t6 2; have n3 := cell_of t6 3)
            | (with_reducible refine (hS2 _ (tab_up ht b2 b2.size)).mono ?_; rintro e w3 ⟨rfl, c3⟩; have b3 := b2.trans (c3.mono b2.size); clear n0 n1 n2 n3; have t7 := (c3.block _ (blk_lt t6)).trans t6; have n0 := cell_of t7 0; have n1 := cell_of t7 1; have n2 := cell_of t7 2; have n3 := cell_of t7 3)
            | (with_reducible refine (hS3 _ (tab_up ht b4 b4.size)).mono ?_; rintro e w5 ⟨rfl, c5⟩; have b5 := b4.trans (c5.mono b4.size)))
        | (go_at_call 21; refine (hM _).mono ?_; rintro e w4 ⟨rfl, c4⟩; have b4 := b3.trans (c4.mono b3.size); clear n0 n1 n2 n3; have t8 := (c4.block _ (blk_lt t7)).trans t7; have n0 := cell_of t8 0)
        | (go_at_call 14; refine (num_any _ _).mono ?_; rintro e w9 ⟨rfl, rfl⟩)
        | (go_at_call 18; refine (hK _).mono ?_; rintro e w9 ⟨rfl, rfl⟩))
      go_ret
      exact ⟨rfl, b5⟩
    · have y6 : decide ((1500 : Int) < (u1.size : Int)) = false := decide_eq_false (by omega)
      go_enter Tryz.func5, Tryz.ntmps5
      go_wp2_with (first
        | (go_at_call 16; refine hA.mono ?_; rintro e w0 ⟨rfl, b0⟩)
        | (go_at_call 20; refine (hO _).mono ?_; rintro e w1 ⟨rfl, c1⟩; have b1 := (b0.trans (c1.mono b0.size)).alloc (Nat.le_trans b0.size c1.size) (.cells #[.int .i64 p, .int .i64 q, .int .i64 d1, .int .i64 d2] 37); have t5 := blk_new w1 (.cells #[.int .i64 p, .int .i64 q, .int .i64 d1, .int .i64 d2] 37); have n0 := cell_of t5 0; have n1 := cell_of t5 1; have n2 := cell_of t5 2; have n3 := cell_of t5 3; have hw1 : w1.heap.size < (w1.alloc (.cells #[.int .i64 p, .int .i64 q, .int .i64 d1, .int .i64 d2] 37)).heap.size := by simp)
        | (go_at_call 12; first
            | (with_reducible refine (hS1 _ (tab_up ht b1 b1.size)).mono ?_; rintro e w2 ⟨rfl, c2⟩; have b2 := b1.trans (c2.mono b1.size); clear n0 n1 n2 n3; have t6 := (c2.block _ hw1).trans t5; have n0 := cell_of t6 0; have n1 := cell_of t6 1; have n2 := cell_of t6 2; have n3 := cell_of t6 3)
            | (with_reducible refine (hS2 _ (tab_up ht b2 b2.size)).mono ?_; rintro e w3 ⟨rfl, c3⟩; have b3 := b2.trans (c3.mono b2.size); clear n0 n1 n2 n3; have t7 := (c3.block _ (blk_lt t6)).trans t6; have n0 := cell_of t7 0; have n1 := cell_of t7 1; have n2 := cell_of t7 2; have n3 := cell_of t7 3)
            | (with_reducible refine (hS3 _ (tab_up ht b4 b4.size)).mono ?_; rintro e w5 ⟨rfl, c5⟩; have b5 := b4.trans (c5.mono b4.size)))
        | (go_at_call 21; refine (hM _).mono ?_; rintro e w4 ⟨rfl, c4⟩; have b4 := b3.trans (c4.mono b3.size); clear n0 n1 n2 n3; have t8 := (c4.block _ (blk_lt t7)).trans t7; have n0 := cell_of t8 0)
        | (go_at_call 14; refine (num_any _ _).mono ?_; rintro e w9 ⟨rfl, rfl⟩)
        | (go_at_call 18; refine (hK _).mono ?_; rintro e w9 ⟨rfl, rfl⟩))
      go_ret
      exact ⟨rfl, b5⟩
    · have y6 : decide ((1500 : Int) < (u1.size : Int)) = false := decide_eq_false (by omega)
      go_enter Tryz.func5, Tryz.ntmps5
      go_wp2_with (first
        | (go_at_call 16; refine hA.mono ?_; rintro e w0 ⟨rfl, b0⟩)
        | (go_at_call 20; refine (hO _).mono ?_; rintro e w1 ⟨rfl, c1⟩; have b1 := (b0.trans (c1.mono b0.size)).alloc (Nat.le_trans b0.size c1.size) (.cells #[.int .i64 p, .int .i64 q, .int .i64 d1, .int .i64 d2] 37); have t5 := blk_new w1 (.cells #[.int .i64 p, .int .i64 q, .int .i64 d1, .int .i64 d2] 37); have n0 := cell_of t5 0; have n1 := cell_of t5 1; have n2 := cell_of t5 2; have n3 := cell_of t5 3; have hw1 : w1.heap.size < (w1.alloc (.cells #[.int .i64 p, .int .i64 q, .int .i64 d1, .int .i64 d2] 37)).heap.size := by simp)
        | (go_at_call 12; first
            | (with_reducible refine (hS1 _ (tab_up ht b1 b1.size)).mono ?_; rintro e w2 ⟨rfl, c2⟩; have b2 := b1.trans (c2.mono b1.size); clear n0 n1 n2 n3; have t6 := (c2.block _ hw1).trans t5; have n0 := cell_of t6 0; have n1 := cell_of t6 1; have n2 := cell_of t6 2; have n3 := cell_of t6 3)
            | (with_reducible refine (hS2 _ (tab_up ht b2 b2.size)).mono ?_; rintro e w3 ⟨rfl, c3⟩; have b3 := b2.trans (c3.mono b2.size); clear n0 n1 n2 n3; have t7 := (c3.block _ (blk_lt t6)).trans t6; have n0 := cell_of t7 0; have n1 := cell_of t7 1; have n2 := cell_of t7 2; have n3 := cell_of t7 3)
            | (with_reducible refine (hS3 _ (tab_up ht b4 b4.size)).mono ?_; rintro e w5 ⟨rfl, c5⟩; have b5 := b4.trans (c5.mono b4.size)))
        | (go_at_call 21; refine (hM _).mono ?_; rintro e w4 ⟨rfl, c4⟩; have b4 := b3.trans (c4.mono b3.size); clear n0 n1 n2 n3; have t8 := (c4.block _ (blk_lt t7)).trans t7; have n0 := cell_of t8 0)
        | (go_at_call 22; first
            | (with_reducible refine (hRa _).mono ?_; rintro e w6 ⟨⟨va, rfl, ra⟩, c6⟩; have b6 := b5.trans (c6.mono b5.size))
            | (with_reducible refine (hRb _).mono ?_; rintro e w7 ⟨⟨vb, rfl, rb⟩, c7⟩; have b7 := b6.trans (c7.mono b6.size)))
        | (go_at_call 23; refine (hWy _ _ _ (ra.below c7) rb).mono ?_; rintro e w8 ⟨⟨x, y, rfl⟩, c8⟩; have b8 := (b7.trans (c8.mono b7.size)))
        | (go_at_call 14; refine (num_any _ _).mono ?_; rintro e w9 ⟨rfl, rfl⟩)
        | (go_at_call 18; refine (hK _).mono ?_; rintro e w9 ⟨rfl, rfl⟩))
      go_ret
      exact ⟨rfl, b8.alloc b8.size _⟩

set_option maxRecDepth 100000 in
set_option maxHeartbeats 6400000 in
/-- Where both are told. -/
theorem comes_told2 (rule text s1 t1 u1 : ByteArray) (j k p q d1 d2 kq m1 m2 k3 : Int) (A B : List Cel) (w : World) (ht : Tab w.heap.size w) (hp : 0 ≤ p) (hq1 : 1 ≤ q) (hpq : p + q ≤ 200) (hj0 : 0 ≤ j) (hj1 : j < q) (hk0 : 0 ≤ k) (hk1 : k ≤ 1000000) (hkq : IntKind.i64.wrap (k * q) = kq) (hkq0 : 0 ≤ kq ∧ kq ≤ 200000000) (hm1 : IntKind.i64.wrap (k * d1) = m1) (hm2 : IntKind.i64.wrap (k * d2) = m2)
    (hO : ∀ w, Calls Tryz.prog 20 #[.string rule, .string text] w fun e w' => e = .returned (.tuple #[.agg #[.int .i64 p, .int .i64 q, .int .i64 d1, .int .i64 d2], .int .i64 0, .int .i64 0]) ∧ Below w.heap.size w w')
    (hS1 : ∀ w, Tab w.heap.size w → Calls Tryz.prog 12 #[.string rule, .string text, .int .i64 (p + j)] w fun e w' => e = .returned (.tuple #[.string s1, .int .i64 0, .int .i64 0]) ∧ Below w.heap.size w w')
    (hS2 : ∀ w, Tab w.heap.size w → Calls Tryz.prog 12 #[.string rule, .string text, .int .i64 (p + j + kq)] w fun e w' => e = .returned (.tuple #[.string t1, .int .i64 0, .int .i64 0]) ∧ Below w.heap.size w w')
    (hS3 : ∀ w, Tab w.heap.size w → Calls Tryz.prog 12 #[.string rule, .string text, .int .i64 p] w fun e w' => e = .returned (.tuple #[.string u1, .int .i64 k3, .int .i64 0]) ∧ Below w.heap.size w w')
    (hM : ∀ w, Calls Tryz.prog 21 #[.string s1, .int .i64 m1, .int .i64 m2] w fun e w' => e = .returned (.tuple #[.string t1, .bool true]) ∧ Below w.heap.size w w')
    (hl : s1.size ≤ 1500) (h3 : 0 < j → 1500 < u1.size ∨ (u1.size ≤ 1500 ∧ k3 = 4) ∨ (u1.size ≤ 1500 ∧ k3 = 0 ∧
      (∀ w, Calls Tryz.prog 22 #[.string u1] w fun e w' => (∃ v, e = .returned (.tuple #[v, .int .i64 0, .int .i64 0]) ∧ RowAt w' v A) ∧ Below w.heap.size w w') ∧
      (∀ w, Calls Tryz.prog 22 #[.string s1] w fun e w' => (∃ v, e = .returned (.tuple #[v, .int .i64 0, .int .i64 0]) ∧ RowAt w' v B) ∧ Below w.heap.size w w') ∧
      (∀ v u w, RowAt w v A → RowAt w u B → Calls Tryz.prog 23 #[v, u] w fun e w' => (∃ x y, e = .returned (.tuple #[.agg #[.int .i64 x, .int .i64 y], .bool false])) ∧ Below w.heap.size w w'))) (hz : ¬ t1.toList = [48, 32, 48, 32, 33]) :
    Calls Tryz.prog 5 #[.string rule, .string text, .int .i64 j, .int .i64 k] w fun e w' => e = .returned (.bool true) ∧ Below w.heap.size w w' := by
  have hA := alive_any w ht
  have hK := fun w => known_any 0 w
  have x1 : decide (p < 0) = false := decide_eq_false (by omega)
  have x2 : decide (q < 1) = false := decide_eq_false (by omega)
  have x3 : decide (200 < p + q) = false := decide_eq_false (by omega)
  have y1 : decide (j < 0) = false := decide_eq_false (by omega)
  have y2 : decide (k < 0) = false := decide_eq_false (by omega)
  have y3 : decide (q ≤ j) = false := decide_eq_false (by omega)
  have y4 : decide (1000000 < k) = false := decide_eq_false (by omega)
  have y9 : decide ((1500 : Int) < (s1.size : Int)) = false := decide_eq_false (by omega)
  by_cases hjp : 0 < j
  rotate_left
  · have y5 : decide (0 < j) = false := decide_eq_false hjp
    go_enter Tryz.func5, Tryz.ntmps5
    go_wp2_with (first
      | (go_at_call 16; refine hA.mono ?_; rintro e w0 ⟨rfl, b0⟩)
      | (go_at_call 20; refine (hO _).mono ?_; rintro e w1 ⟨rfl, c1⟩; have b1 := (b0.trans (c1.mono b0.size)).alloc (Nat.le_trans b0.size c1.size) (.cells #[.int .i64 p, .int .i64 q, .int .i64 d1, .int .i64 d2] 37); have t5 := blk_new w1 (.cells #[.int .i64 p, .int .i64 q, .int .i64 d1, .int .i64 d2] 37); have n0 := cell_of t5 0; have n1 := cell_of t5 1; have n2 := cell_of t5 2; have n3 := cell_of t5 3; have hw1 : w1.heap.size < (w1.alloc (.cells #[.int .i64 p, .int .i64 q, .int .i64 d1, .int .i64 d2] 37)).heap.size := by simp)
      | (go_at_call 12; first
          | (with_reducible refine (hS1 _ (tab_up ht b1 b1.size)).mono ?_; rintro e w2 ⟨rfl, c2⟩; have b2 := b1.trans (c2.mono b1.size); clear n0 n1 n2 n3; have t6 := (c2.block _ hw1).trans t5; have n0 := cell_of t6 0; have n1 := cell_of t6 1; have n2 := cell_of t6 2; have n3 := cell_of t6 3)
          | (with_reducible refine (hS2 _ (tab_up ht b2 b2.size)).mono ?_; rintro e w3 ⟨rfl, c3⟩; have b3 := b2.trans (c3.mono b2.size); clear n0 n1 n2 n3; have t7 := (c3.block _ (blk_lt t6)).trans t6; have n0 := cell_of t7 0; have n1 := cell_of t7 1; have n2 := cell_of t7 2; have n3 := cell_of t7 3)
          | (with_reducible refine (hS3 _ (tab_up ht b4 b4.size)).mono ?_; rintro e w5 ⟨rfl, c5⟩; have b5 := b4.trans (c5.mono b4.size)))
      | (go_at_call 21; refine (hM _).mono ?_; rintro e w4 ⟨rfl, c4⟩; have b4 := b3.trans (c4.mono b3.size); clear n0 n1 n2 n3; have t8 := (c4.block _ (blk_lt t7)).trans t7; have n0 := cell_of t8 0)
      | (go_at_call 14; refine (num_any _ _).mono ?_; rintro e w9 ⟨rfl, rfl⟩)
      | (go_at_call 18; refine (hK _).mono ?_; rintro e w9 ⟨rfl, rfl⟩))
    go_ret
    exact ⟨rfl, b4⟩
  · have y5 : decide (0 < j) = true := decide_eq_true hjp
    rcases h3 hjp with hu | ⟨hu, rfl⟩ | ⟨hu, rfl, hRa, hRb, hWy⟩
    · have y6 : decide ((1500 : Int) < (u1.size : Int)) = true := decide_eq_true (by omega)
      go_enter Tryz.func5, Tryz.ntmps5
      go_wp2_with (first
        | (go_at_call 16; refine hA.mono ?_; rintro e w0 ⟨rfl, b0⟩)
        | (go_at_call 20; refine (hO _).mono ?_; rintro e w1 ⟨rfl, c1⟩; have b1 := (b0.trans (c1.mono b0.size)).alloc (Nat.le_trans b0.size c1.size) (.cells #[.int .i64 p, .int .i64 q, .int .i64 d1, .int .i64 d2] 37); have t5 := blk_new w1 (.cells #[.int .i64 p, .int .i64 q, .int .i64 d1, .int .i64 d2] 37); have n0 := cell_of t5 0; have n1 := cell_of t5 1; have n2 := cell_of t5 2; have n3 := cell_of t5 3; have hw1 : w1.heap.size < (w1.alloc (.cells #[.int .i64 p, .int .i64 q, .int .i64 d1, .int .i64 d2] 37)).heap.size := by simp)
        | (go_at_call 12; first
            | (with_reducible refine (hS1 _ (tab_up ht b1 b1.size)).mono ?_; rintro e w2 ⟨rfl, c2⟩; have b2 := b1.trans (c2.mono b1.size); clear n0 n1 n2 n3; have t6 := (c2.block _ hw1).trans t5; have n0 := cell_of t6 0; have n1 := cell_of t6 1; have n2 := cell_of t6 2; have n3 := cell_of t6 3)
            | (with_reducible refine (hS2 _ (tab_up ht b2 b2.size)).mono ?_; rintro e w3 ⟨rfl, c3⟩; have b3 := b2.trans (c3.mono b2.size); clear n0 n1 n2 n3; have t7 := (c3.block _ (blk_lt t6)).trans t6; have n0 := cell_of t7 0; have n1 := cell_of t7 1; have n2 := cell_of t7 2; have n3 := cell_of t7 3)
            | (with_reducible refine (hS3 _ (tab_up ht b4 b4.size)).mono ?_; rintro e w5 ⟨rfl, c5⟩; have b5 := b4.trans (c5.mono b4.size)))
        | (go_at_call 21; refine (hM _).mono ?_; rintro e w4 ⟨rfl, c4⟩; have b4 := b3.trans (c4.mono b3.size); clear n0 n1 n2 n3; have t8 := (c4.block _ (blk_lt t7)).trans t7; have n0 := cell_of t8 0)
        | (go_at_call 14; refine (num_any _ _).mono ?_; rintro e w9 ⟨rfl, rfl⟩)
        | (go_at_call 18; refine (hK _).mono ?_; rintro e w9 ⟨rfl, rfl⟩))
      go_ret
      exact ⟨rfl, b5⟩
    · have y6 : decide ((1500 : Int) < (u1.size : Int)) = false := decide_eq_false (by omega)
      go_enter Tryz.func5, Tryz.ntmps5
      go_wp2_with (first
        | (go_at_call 16; refine hA.mono ?_; rintro e w0 ⟨rfl, b0⟩)
        | (go_at_call 20; refine (hO _).mono ?_; rintro e w1 ⟨rfl, c1⟩; have b1 := (b0.trans (c1.mono b0.size)).alloc (Nat.le_trans b0.size c1.size) (.cells #[.int .i64 p, .int .i64 q, .int .i64 d1, .int .i64 d2] 37); have t5 := blk_new w1 (.cells #[.int .i64 p, .int .i64 q, .int .i64 d1, .int .i64 d2] 37); have n0 := cell_of t5 0; have n1 := cell_of t5 1; have n2 := cell_of t5 2; have n3 := cell_of t5 3; have hw1 : w1.heap.size < (w1.alloc (.cells #[.int .i64 p, .int .i64 q, .int .i64 d1, .int .i64 d2] 37)).heap.size := by simp)
        | (go_at_call 12; first
            | (with_reducible refine (hS1 _ (tab_up ht b1 b1.size)).mono ?_; rintro e w2 ⟨rfl, c2⟩; have b2 := b1.trans (c2.mono b1.size); clear n0 n1 n2 n3; have t6 := (c2.block _ hw1).trans t5; have n0 := cell_of t6 0; have n1 := cell_of t6 1; have n2 := cell_of t6 2; have n3 := cell_of t6 3)
            | (with_reducible refine (hS2 _ (tab_up ht b2 b2.size)).mono ?_; rintro e w3 ⟨rfl, c3⟩; have b3 := b2.trans (c3.mono b2.size); clear n0 n1 n2 n3; have t7 := (c3.block _ (blk_lt t6)).trans t6; have n0 := cell_of t7 0; have n1 := cell_of t7 1; have n2 := cell_of t7 2; have n3 := cell_of t7 3)
            | (with_reducible refine (hS3 _ (tab_up ht b4 b4.size)).mono ?_; rintro e w5 ⟨rfl, c5⟩; have b5 := b4.trans (c5.mono b4.size)))
        | (go_at_call 21; refine (hM _).mono ?_; rintro e w4 ⟨rfl, c4⟩; have b4 := b3.trans (c4.mono b3.size); clear n0 n1 n2 n3; have t8 := (c4.block _ (blk_lt t7)).trans t7; have n0 := cell_of t8 0)
        | (go_at_call 14; refine (num_any _ _).mono ?_; rintro e w9 ⟨rfl, rfl⟩)
        | (go_at_call 18; refine (hK _).mono ?_; rintro e w9 ⟨rfl, rfl⟩))
      go_ret
      exact ⟨rfl, b5⟩
    · have y6 : decide ((1500 : Int) < (u1.size : Int)) = false := decide_eq_false (by omega)
      go_enter Tryz.func5, Tryz.ntmps5
      go_wp2_with (first
        | (go_at_call 16; refine hA.mono ?_; rintro e w0 ⟨rfl, b0⟩)
        | (go_at_call 20; refine (hO _).mono ?_; rintro e w1 ⟨rfl, c1⟩; have b1 := (b0.trans (c1.mono b0.size)).alloc (Nat.le_trans b0.size c1.size) (.cells #[.int .i64 p, .int .i64 q, .int .i64 d1, .int .i64 d2] 37); have t5 := blk_new w1 (.cells #[.int .i64 p, .int .i64 q, .int .i64 d1, .int .i64 d2] 37); have n0 := cell_of t5 0; have n1 := cell_of t5 1; have n2 := cell_of t5 2; have n3 := cell_of t5 3; have hw1 : w1.heap.size < (w1.alloc (.cells #[.int .i64 p, .int .i64 q, .int .i64 d1, .int .i64 d2] 37)).heap.size := by simp)
        | (go_at_call 12; first
            | (with_reducible refine (hS1 _ (tab_up ht b1 b1.size)).mono ?_; rintro e w2 ⟨rfl, c2⟩; have b2 := b1.trans (c2.mono b1.size); clear n0 n1 n2 n3; have t6 := (c2.block _ hw1).trans t5; have n0 := cell_of t6 0; have n1 := cell_of t6 1; have n2 := cell_of t6 2; have n3 := cell_of t6 3)
            | (with_reducible refine (hS2 _ (tab_up ht b2 b2.size)).mono ?_; rintro e w3 ⟨rfl, c3⟩; have b3 := b2.trans (c3.mono b2.size); clear n0 n1 n2 n3; have t7 := (c3.block _ (blk_lt t6)).trans t6; have n0 := cell_of t7 0; have n1 := cell_of t7 1; have n2 := cell_of t7 2; have n3 := cell_of t7 3)
            | (with_reducible refine (hS3 _ (tab_up ht b4 b4.size)).mono ?_; rintro e w5 ⟨rfl, c5⟩; have b5 := b4.trans (c5.mono b4.size)))
        | (go_at_call 21; refine (hM _).mono ?_; rintro e w4 ⟨rfl, c4⟩; have b4 := b3.trans (c4.mono b3.size); clear n0 n1 n2 n3; have t8 := (c4.block _ (blk_lt t7)).trans t7; have n0 := cell_of t8 0)
        | (go_at_call 22; first
            | (with_reducible refine (hRa _).mono ?_; rintro e w6 ⟨⟨va, rfl, ra⟩, c6⟩; have b6 := b5.trans (c6.mono b5.size))
            | (with_reducible refine (hRb _).mono ?_; rintro e w7 ⟨⟨vb, rfl, rb⟩, c7⟩; have b7 := b6.trans (c7.mono b6.size)))
        | (go_at_call 23; refine (hWy _ _ _ (ra.below c7) rb).mono ?_; rintro e w8 ⟨⟨x, y, rfl⟩, c8⟩; have b8 := (b7.trans (c8.mono b7.size)))
        | (go_at_call 14; refine (num_any _ _).mono ?_; rintro e w9 ⟨rfl, rfl⟩)
        | (go_at_call 18; refine (hK _).mono ?_; rintro e w9 ⟨rfl, rfl⟩))
      go_ret
      exact ⟨rfl, b8.alloc b8.size _⟩

theorem comes_told (rule text s1 t1 u1 : ByteArray) (j k p q d1 d2 kq m1 m2 k3 : Int) (A B : List Cel) (w : World) (ht : Tab w.heap.size w) (hp : 0 ≤ p) (hq1 : 1 ≤ q) (hpq : p + q ≤ 200) (hj0 : 0 ≤ j) (hj1 : j < q) (hk0 : 0 ≤ k) (hk1 : k ≤ 1000000) (hkq : IntKind.i64.wrap (k * q) = kq) (hkq0 : 0 ≤ kq ∧ kq ≤ 200000000) (hm1 : IntKind.i64.wrap (k * d1) = m1) (hm2 : IntKind.i64.wrap (k * d2) = m2)
    (hO : ∀ w, Calls Tryz.prog 20 #[.string rule, .string text] w fun e w' => e = .returned (.tuple #[.agg #[.int .i64 p, .int .i64 q, .int .i64 d1, .int .i64 d2], .int .i64 0, .int .i64 0]) ∧ Below w.heap.size w w')
    (hS1 : ∀ w, Tab w.heap.size w → Calls Tryz.prog 12 #[.string rule, .string text, .int .i64 (p + j)] w fun e w' => e = .returned (.tuple #[.string s1, .int .i64 0, .int .i64 0]) ∧ Below w.heap.size w w')
    (hS2 : ∀ w, Tab w.heap.size w → Calls Tryz.prog 12 #[.string rule, .string text, .int .i64 (p + j + kq)] w fun e w' => e = .returned (.tuple #[.string t1, .int .i64 0, .int .i64 0]) ∧ Below w.heap.size w w')
    (hS3 : ∀ w, Tab w.heap.size w → Calls Tryz.prog 12 #[.string rule, .string text, .int .i64 p] w fun e w' => e = .returned (.tuple #[.string u1, .int .i64 k3, .int .i64 0]) ∧ Below w.heap.size w w')
    (hM : ∀ w, Calls Tryz.prog 21 #[.string s1, .int .i64 m1, .int .i64 m2] w fun e w' => e = .returned (.tuple #[.string t1, .bool true]) ∧ Below w.heap.size w w')
    (hl : s1.size ≤ 1500) (h3 : 0 < j → 1500 < u1.size ∨ (u1.size ≤ 1500 ∧ k3 = 4) ∨ (u1.size ≤ 1500 ∧ k3 = 0 ∧
      (∀ w, Calls Tryz.prog 22 #[.string u1] w fun e w' => (∃ v, e = .returned (.tuple #[v, .int .i64 0, .int .i64 0]) ∧ RowAt w' v A) ∧ Below w.heap.size w w') ∧
      (∀ w, Calls Tryz.prog 22 #[.string s1] w fun e w' => (∃ v, e = .returned (.tuple #[v, .int .i64 0, .int .i64 0]) ∧ RowAt w' v B) ∧ Below w.heap.size w w') ∧
      (∀ v u w, RowAt w v A → RowAt w u B → Calls Tryz.prog 23 #[v, u] w fun e w' => (∃ x y, e = .returned (.tuple #[.agg #[.int .i64 x, .int .i64 y], .bool false])) ∧ Below w.heap.size w w'))) :
    Calls Tryz.prog 5 #[.string rule, .string text, .int .i64 j, .int .i64 k] w fun e w' => e = .returned (.bool true) ∧ Below w.heap.size w w' := by
  rcases Classical.em (t1.toList = [48, 32, 48, 32, 33]) with hz | hz
  · exact comes_told1 rule text s1 t1 u1 j k p q d1 d2 kq m1 m2 k3 A B w ht hp hq1 hpq hj0 hj1 hk0 hk1 hkq hkq0 hm1 hm2 hO hS1 hS2 hS3 hM hl h3 hz
  · exact comes_told2 rule text s1 t1 u1 j k p q d1 d2 kq m1 m2 k3 A B w ht hp hq1 hpq hj0 hj1 hk0 hk1 hkq hkq0 hm1 hm2 hO hS1 hS2 hS3 hM hl h3 hz

/-- The law Comes. -/
theorem comes_walk (rule text : ByteArray) (j k : Int) (h1 : rule.size ≤ maxLen) (h2 : text.size ≤ maxLen) (w : World) (ht : Tab w.heap.size w) :
    Calls Tryz.prog 5 #[.string rule, .string text, .int .i64 j, .int .i64 k] w fun e w' => e = .returned (.bool true) ∧ Below w.heap.size w w' := by
  have hO := fun w => orbit_any rule text w h1 h2
  have hS := fun n w ht => step_any rule text n w h1 h2 ht
  cases hr : ruleR rule with
  | inl x =>
    obtain ⟨e0, i⟩ := x
    have hA : orbitA rule text = ((0, 0, 0, 0), e0, (i : Int)) := by unfold orbitA; rw [hr]
    simp only [hA, cycC] at hO
    have hk := ruleR_bad hr
    exact comes_err rule text j k e0 i w ht h1 h2 (by simpa using hk) (fun h => by unfold rightB at h; rw [hr] at h; cases h) hO
  | inr x =>
    obtain ⟨f, g⟩ := x
    cases hp : patR text with
    | inl x =>
      obtain ⟨e0, i⟩ := x
      have hA : orbitA rule text = ((0, 0, 0, 0), e0, (i : Int)) := by unfold orbitA; rw [hr]; simp only [hp]
      simp only [hA, cycC] at hO
      have hk := patR_bad hp
      exact comes_err rule text j k e0 i w ht h1 h2 (by simpa using hk) (fun h => by unfold rightB at h; rw [hr] at h; simp only [hp] at h; cases h) hO
    | inr C =>
      obtain ⟨X, Y, hf, hbx⟩ := patR_tight hp
      cases hc : course f g C with
      | inl e0 =>
        have hA : orbitA rule text = ((0, 0, 0, 0), e0, 0) := by unfold orbitA; rw [hr]; simp only [hp, hc]
        simp only [hA, cycC] at hO
        exact comes_err rule text j k e0 0 w ht h1 h2 (courseF_ne 201 0 hc) (fun _ => courseF_err 201 0 hc) hO
      | inr x =>
        obtain ⟨t, s⟩ := x
        obtain ⟨ht2, hcm⟩ := courseF_s 201 0 hc
        have hst := cameB_lt hcm
        have hw := came_way hcm
        have hsm := way_small (Nat.le_of_lt hst) hw
        have hcy : cycOf f g C t = ((s : Int), (t : Int) - (s : Int), (wayD (gen f g C s) (gen f g C t)).1, (wayD (gen f g C s) (gen f g C t)).2) := by unfold cycOf; rw [hcm]
        have hA : orbitA rule text = (cycOf f g C t, 0, 0) := by unfold orbitA; rw [hr]; simp only [hp, hc]
        simp only [hA, hcy, cycC] at hO
        obtain ⟨⟨d1, d2⟩, hd⟩ : ∃ d, wayD (gen f g C s) (gen f g C t) = d := ⟨_, rfl⟩
        simp only [hd] at hO hsm
        by_cases hin : 0 ≤ j ∧ 0 ≤ k ∧ j < (t : Int) - (s : Int) ∧ k ≤ 1000000
        rotate_left
        · exact comes_out rule text j k (s : Int) ((t : Int) - (s : Int)) d1 d2 w ht (by omega) (by omega) (by omega) (by omega) hO
        obtain ⟨j0, k0, j1, k1⟩ := hin
        obtain ⟨jn, rfl⟩ : ∃ jn : Nat, j = (jn : Int) := ⟨j.toNat, by omega⟩
        obtain ⟨kn, rfl⟩ : ∃ kn : Nat, k = (kn : Int) := ⟨k.toNat, by omega⟩
        have hb : ∀ d : Int, -((t : Int) - (s : Int)) ≤ d → d ≤ (t : Int) - (s : Int) → -200000000 ≤ (kn : Int) * d ∧ (kn : Int) * d ≤ 200000000 := fun d a1 a2 => by
          have e1 := Int.mul_le_mul_of_nonneg_left a2 k0
          have e2 := Int.mul_le_mul_of_nonneg_left a1 k0
          have e3 := Int.mul_le_mul (show (kn : Int) ≤ 1000000 from k1) (show (t : Int) - (s : Int) ≤ 200 by omega) (by omega) (by omega)
          rw [Int.mul_neg] at e2
          omega
        have bq := hb ((t : Int) - (s : Int)) (by omega) (by omega)
        have bq0 : 0 ≤ (kn : Int) * ((t : Int) - (s : Int)) := Int.mul_nonneg k0 (by omega)
        have bd1 := hb d1 hsm.1.1 hsm.1.2
        have bd2 := hb d2 hsm.2.1 hsm.2.2
        have hkqn : (kn : Int) * ((t : Int) - (s : Int)) = ((kn * (t - s) : Nat) : Int) := by
          rw [Int.natCast_mul, show ((t - s : Nat) : Int) = (t : Int) - (s : Int) by omega]
        have hwrap : ∀ z : Int, -200000000 ≤ z → z ≤ 200000000 → IntKind.i64.wrap z = z := fun z a b => IntWalk.i64_in _ ⟨by omega, by omega⟩
        have hper := gen_periods hst hw jn kn
        rw [hd] at hper
        simp only at hper
        have hstep : ∀ m : Nat, (m : Int) ≤ 1000000000 → stepA rule text (m : Int) = if farL (gen f g C m) = true then (⟨#[]⟩, 4, 0) else (⟨(plainB (gen f g C m)).toArray⟩, 0, 0) := fun m hm => by
          rw [stepA_of hr hp, afterR_course hc (by omega) (by omega), Int.toNat_natCast]
          by_cases hfl : farL (gen f g C m) = true
          · rw [if_pos hfl, if_pos hfl]
          · rw [if_neg hfl, if_neg hfl]
        have hfine : ∀ m : Nat, (m : Int) ≤ 1000000000 → farL (gen f g C m) = false → ∃ X' Y', Fine (gen f g C m) X' Y' := fun m hm hfl => by
          refine afterR_fine (f := f) (g := g) (n := (m : Int)) hf hbx ?_
          rw [afterR_course hc (by omega) (by omega), Int.toNat_natCast, hfl]
          rfl
        have hS1 := hS ((s : Int) + (jn : Int))
        have hS2 := hS ((s : Int) + (jn : Int) + (kn : Int) * ((t : Int) - (s : Int)))
        have hS3 := hS (s : Int)
        have e1 := hstep (s + jn) (by omega)
        have e2 := hstep (s + jn + kn * (t - s)) (by omega)
        have e3 := hstep s (by omega)
        rw [show ((s + jn : Nat) : Int) = (s : Int) + (jn : Int) by omega] at e1
        rw [show ((s + jn + kn * (t - s) : Nat) : Int) = (s : Int) + (jn : Int) + (kn : Int) * ((t : Int) - (s : Int)) by rw [hkqn]; omega] at e2
        rw [e1] at hS1
        rw [e2] at hS2
        rw [e3] at hS3
        have hz : ∀ D : List Cel, (⟨(plainB D).toArray⟩ : ByteArray).size = (plainB D).length := fun D => by show (plainB D).toArray.size = _; simp
        cases hf1 : farL (gen f g C (s + jn)) with
        | true =>
          simp only [hf1, if_true] at hS1
          cases hf2 : farL (gen f g C (s + jn + kn * (t - s))) with
          | true =>
            simp only [hf2, if_true] at hS2
            exact comes_far rule text _ _ (jn : Int) (kn : Int) (s : Int) ((t : Int) - (s : Int)) d1 d2 _ 4 4 w ht (by omega) (by omega) (by omega) j0 j1 k0 k1 (hwrap _ bq.1 bq.2) ⟨bq0, bq.2⟩ hO hS1 hS2 (.inl rfl)
          | false =>
            simp only [hf2, if_false, Bool.false_eq_true] at hS2
            exact comes_far rule text _ _ (jn : Int) (kn : Int) (s : Int) ((t : Int) - (s : Int)) d1 d2 _ 4 0 w ht (by omega) (by omega) (by omega) j0 j1 k0 k1 (hwrap _ bq.1 bq.2) ⟨bq0, bq.2⟩ hO hS1 hS2 (.inl rfl)
        | false =>
          simp only [hf1, if_false, Bool.false_eq_true] at hS1
          cases hf2 : farL (gen f g C (s + jn + kn * (t - s))) with
          | true =>
            simp only [hf2, if_true] at hS2
            exact comes_far rule text _ _ (jn : Int) (kn : Int) (s : Int) ((t : Int) - (s : Int)) d1 d2 _ 0 4 w ht (by omega) (by omega) (by omega) j0 j1 k0 k1 (hwrap _ bq.1 bq.2) ⟨bq0, bq.2⟩ hO hS1 hS2 (.inr (.inl ⟨rfl, rfl⟩))
          | false =>
            simp only [hf2, if_false, Bool.false_eq_true] at hS2
            by_cases hl : (plainB (gen f g C (s + jn))).length ≤ 1500
            rotate_left
            · exact comes_far rule text _ _ (jn : Int) (kn : Int) (s : Int) ((t : Int) - (s : Int)) d1 d2 _ 0 0 w ht (by omega) (by omega) (by omega) j0 j1 k0 k1 (hwrap _ bq.1 bq.2) ⟨bq0, bq.2⟩ hO hS1 hS2 (.inr (.inr ⟨rfl, rfl, by rw [hz]; omega⟩))
            obtain ⟨X1, Y1, fi1⟩ := hfine (s + jn) (by omega) hf1
            obtain ⟨X2, Y2, fi2⟩ := hfine (s + jn + kn * (t - s)) (by omega) hf2
            have hp1 := patR_plain fi1.asc fi1.len hf1 hl
            rw [hper] at fi2 hS2
            have hml : ∀ D : List Cel, (plainB D).length ≤ 1500 → (⟨(plainB D).toArray⟩ : ByteArray).size ≤ maxLen := fun D h => by rw [hz]; unfold maxLen; omega
            have hM := fun w => shifted_any _ (gen f g C (s + jn)) ((kn : Int) * d1) ((kn : Int) * d2) X2 Y2 w (hml _ hl) hp1 (fun c hc' => by
              have := fi1.win c hc'
              unfold inWin at this
              have := fi1.x1; have := fi1.x2; have := fi1.y1; have := fi1.y2
              omega) fi1.len fi2
            obtain ⟨k3, u1, hE, hk3⟩ : ∃ k3 u1, (if farL (gen f g C s) = true then ((⟨#[]⟩ : ByteArray), (4 : Int), (0 : Int)) else (⟨(plainB (gen f g C s)).toArray⟩, 0, 0)) = (u1, k3, 0) ∧ ((k3 = 4 ∧ u1 = ⟨#[]⟩) ∨ (k3 = 0 ∧ u1 = ⟨(plainB (gen f g C s)).toArray⟩ ∧ farL (gen f g C s) = false)) := by
              cases hf3 : farL (gen f g C s) with
              | true => exact ⟨4, ⟨#[]⟩, rfl, .inl ⟨rfl, rfl⟩⟩
              | false => exact ⟨0, _, rfl, .inr ⟨rfl, rfl, rfl⟩⟩
            rw [hE] at hS3
            refine comes_told rule text _ _ u1 (jn : Int) (kn : Int) (s : Int) ((t : Int) - (s : Int)) d1 d2 _ _ _ k3 (gen f g C s) (gen f g C (s + jn)) w ht (by omega) (by omega) (by omega) j0 j1 k0 k1 (hwrap _ bq.1 bq.2) ⟨bq0, bq.2⟩ (hwrap _ bd1.1 bd1.2) (hwrap _ bd2.1 bd2.2) hO hS1 hS2 hS3 hM (by rw [hz]; exact hl) (fun hjp => ?_)
            rcases hk3 with ⟨rfl, rfl⟩ | ⟨rfl, rfl, hf3⟩
            · exact .inr (.inl ⟨by decide, rfl⟩)
            by_cases hl3 : (plainB (gen f g C s)).length ≤ 1500
            rotate_left
            · exact .inl (by rw [hz]; omega)
            obtain ⟨X3, Y3, fi3⟩ := hfine s (by omega) hf3
            have hp3 := patR_plain fi3.asc fi3.len hf3 hl3
            have hrd : ∀ (D : List Cel), (plainB D).length ≤ 1500 → patR ⟨(plainB D).toArray⟩ = .inr D → ∀ w, Calls Tryz.prog 22 #[.string ⟨(plainB D).toArray⟩] w fun e w' => (∃ v, e = .returned (.tuple #[v, .int .i64 0, .int .i64 0]) ∧ RowAt w' v D) ∧ Below w.heap.size w w' := fun D hl hpD w => (refRead_any _ w (hml D hl)).mono fun e w' h => by
              unfold RefPat at h; rw [hpD] at h; obtain ⟨hb, v, he, own⟩ := h; exact ⟨⟨v, he, RowAt.of_owns own⟩, hb⟩
            have hwf : wayB (gen f g C s) (gen f g C (s + jn)) = false := cameB_no (courseF_none 201 0 hc (s + jn) (Nat.zero_le _) (by omega)) (by omega)
            have rs := fine_roam (f := f) (g := g) hf s (by omega)
            have rj := fine_roam (f := f) (g := g) hf (s + jn) (by omega)
            obtain ⟨wf, wx, wy⟩ := way_roam rs rj
            refine .inr (.inr ⟨by rw [hz]; exact hl3, rfl, hrd _ hl3 hp3, hrd _ hl hp1, fun v u w ra rb => (way_any v u _ _ w ra rb (by have := fi3.len; omega) (by have := fi1.len; omega) fi3.asc fi1.asc wf wx wy).mono fun e w' h => ?_⟩)
            rw [hwf] at h
            exact ⟨⟨_, _, h.1⟩, h.2⟩

end Go.Proofs.YtiohpcnnpmnjhaaGreatDoor
