import Derived.Test.YtiohpcnnpmnjhaaGreatDoorFresh
import Derived.Test.YtiohpcnnpmnjhaaGreatDoorRuleFace
import Derived.Test.YtiohpcnnpmnjhaaGreatDoorOnward
namespace Go.Proofs.YtiohpcnnpmnjhaaGreatDoor
open Go.RowKit Go.Shelf
set_option linter.unusedVariables false

theorem eqIn_cyc (a b c d : Int) (w : World) : (Op.equalIn 10000 37 (.agg #[.int .i64 a, .int .i64 b, .int .i64 c, .int .i64 d]) (.agg #[.int .i64 a, .int .i64 b, .int .i64 c, .int .i64 d])).run Tryz.prog w = .ok true w := by
  have u3 := Tryz.underlying3
  have a3 := Tryz.isAgg3
  have z3 := Tryz.sizeOf3
  rw [show (10000 : Nat) = 9999 + 1 from rfl, Op.equalIn]
  simp only [Sem.run_bind, run_underlying Tryz.underlying37, Result.andThen_ok]
  go_simp

set_option maxRecDepth 100000 in
set_option maxHeartbeats 3200000 in
theorem agree_rule (rule text s gs tc : ByteArray) (n y1 y2 y3 y4 K I kb ib : Int) (w : World) (h1 : rule.size ≤ maxLen) (h2 : text.size ≤ maxLen) (ht : Tab w.heap.size w) (hT : TurnTab w)
    (hRu : ∀ w, Calls Tryz.prog 35 #[.string rule] w fun e w' => e = .returned (.tuple #[.int .i64 K, .int .i64 I]) ∧ Below w.heap.size w w')
    (hPr : ∀ w, Tab w.heap.size w → Calls Tryz.prog 36 #[.string text] w fun e w' => e = .returned (.tuple #[.string s, .int .i64 kb, .int .i64 ib]) ∧ Below w.heap.size w w')
    (hSt : ∀ w, Tab w.heap.size w → Calls Tryz.prog 12 #[.string rule, .string text, .int .i64 n] w fun e w' => e = .returned (.tuple #[.string gs, .int .i64 K, .int .i64 I]) ∧ Below w.heap.size w w')
    (hOr : ∀ w, Calls Tryz.prog 20 #[.string rule, .string text] w fun e w' => e = .returned (.tuple #[.agg #[.int .i64 y1, .int .i64 y2, .int .i64 y3, .int .i64 y4], .int .i64 K, .int .i64 I]) ∧ Below w.heap.size w w')
    (hPa : ∀ w, Tab w.heap.size w → Calls Tryz.prog 26 #[.string rule, .string text] w fun e w' => (∃ v, e = .returned (.tuple #[v, .int .i64 K, .int .i64 I])) ∧ Below w.heap.size w w')
    (hCo : ∀ w, Tab w.heap.size w → TurnTab w → Calls Tryz.prog 33 #[.string rule, .string text] w fun e w' => e = .returned (.tuple #[.string tc, .int .i64 K, .int .i64 I]) ∧ Below w.heap.size w w')
    (hr : rightB rule text = false) (hk : K ≠ 0) :
    Calls Tryz.prog 11 #[.string rule, .string text, .int .i64 n] w fun e w' => e = .returned (.bool true) ∧ Below w.heap.size w w' := by
  have hR := fun w => right_any rule text w h1 h2
  rw [hr] at hR
  have z0 : (K == 0) = false := by simpa using hk
  have z1 : (K != 0) = true := by simpa using hk
  go_enter Tryz.func11, Tryz.ntmps11
  go_wp2_with (first
    | (go_at_call 35; refine (hRu _).mono ?_; rintro e w1 ⟨rfl, b1⟩)
    | (go_at_call 36; first | (with_reducible refine (hPr _ (tab_up ht b1 b1.size)).mono ?_; rintro e w2 ⟨rfl, c⟩; have b2 := b1.trans (c.mono b1.size); clear c) | (with_reducible refine (hP2 _ (tab_up ht b7 b7.size)).mono ?_; rintro e w8 ⟨rfl, c⟩; have b8 := b7.trans (c.mono b7.size); have t8 := (c.block _ (blk_lt t7)).trans t7; clear c))
    | (go_at_call 12; refine (hSt _ (tab_up ht b2 b2.size)).mono ?_; rintro e w3 ⟨rfl, c⟩; have b3 := b2.trans (c.mono b2.size); clear c)
    | (go_at_call 20; first | (with_reducible refine (hOr _).mono ?_; rintro e w4 ⟨rfl, c⟩; have b4 := (b3.trans (c.mono b3.size)).alloc (b3.trans (c.mono b3.size)).size (.cells #[.int .i64 y1, .int .i64 y2, .int .i64 y3, .int .i64 y4] 37); have t4 := blk_new w4 (.cells #[.int .i64 y1, .int .i64 y2, .int .i64 y3, .int .i64 y4] 37); clear c) | (with_reducible refine (hO2 _).mono ?_; rintro e w9 ⟨rfl, c⟩; have b9 := (b8.trans (c.mono b8.size)).alloc (b8.trans (c.mono b8.size)).size (.cells #[.int .i64 y1, .int .i64 y2, .int .i64 y3, .int .i64 y4] 37); have t9 := blk_old ((c.block _ (blk_lt t8)).trans t8) (.cells #[.int .i64 y1, .int .i64 y2, .int .i64 y3, .int .i64 y4] 37); have s9 := blk_new w9 (.cells #[.int .i64 y1, .int .i64 y2, .int .i64 y3, .int .i64 y4] 37); clear c))
    | (go_at_call 26; refine (hPa _ (tab_up ht b4 b4.size)).mono ?_; rintro e w5 ⟨⟨v5, rfl⟩, c⟩; have b5 := b4.trans (c.mono b4.size); have t5 := (c.block _ (blk_lt t4)).trans t4; clear c)
    | (go_at_call 33; refine (hCo _ (tab_up ht b5 b5.size) (hT.on b5 (Nat.le_refl _))).mono ?_; rintro e w6 ⟨rfl, c⟩; have b6 := b5.trans (c.mono b5.size); have t6 := (c.block _ (blk_lt t5)).trans t5; clear c)
    | (go_at_call 17; refine (hR _).mono ?_; rintro e w7 ⟨rfl, c⟩; have b7 := b6.trans (c.mono b6.size); have t7 := (c.block _ (blk_lt t6)).trans t6; clear c)
    | (go_at_call 18; refine (known_any _ _).mono ?_; rintro e wk ⟨rfl, rfl⟩)
    | (go_at_call 14; refine (num_any _ _).mono ?_; rintro e wk ⟨rfl, rfl⟩))
  go_ret
  exact ⟨rfl, b7⟩

set_option maxRecDepth 100000 in
set_option maxHeartbeats 3200000 in
theorem agree_text (rule text s gs tc : ByteArray) (n y1 y2 y3 y4 K I : Int) (w : World) (h1 : rule.size ≤ maxLen) (h2 : text.size ≤ maxLen) (ht : Tab w.heap.size w) (hT : TurnTab w)
    (hRu : ∀ w, Calls Tryz.prog 35 #[.string rule] w fun e w' => e = .returned (.tuple #[.int .i64 0, .int .i64 0]) ∧ Below w.heap.size w w')
    (hPr : ∀ w, Tab w.heap.size w → Calls Tryz.prog 36 #[.string text] w fun e w' => e = .returned (.tuple #[.string s, .int .i64 K, .int .i64 I]) ∧ Below w.heap.size w w')
    (hSt : ∀ w, Tab w.heap.size w → Calls Tryz.prog 12 #[.string rule, .string text, .int .i64 n] w fun e w' => e = .returned (.tuple #[.string gs, .int .i64 K, .int .i64 I]) ∧ Below w.heap.size w w')
    (hOr : ∀ w, Calls Tryz.prog 20 #[.string rule, .string text] w fun e w' => e = .returned (.tuple #[.agg #[.int .i64 y1, .int .i64 y2, .int .i64 y3, .int .i64 y4], .int .i64 K, .int .i64 I]) ∧ Below w.heap.size w w')
    (hPa : ∀ w, Tab w.heap.size w → Calls Tryz.prog 26 #[.string rule, .string text] w fun e w' => (∃ v, e = .returned (.tuple #[v, .int .i64 K, .int .i64 I])) ∧ Below w.heap.size w w')
    (hCo : ∀ w, Tab w.heap.size w → TurnTab w → Calls Tryz.prog 33 #[.string rule, .string text] w fun e w' => e = .returned (.tuple #[.string tc, .int .i64 K, .int .i64 I]) ∧ Below w.heap.size w w')
    (hr : rightB rule text = false) (hk : K ≠ 0) :
    Calls Tryz.prog 11 #[.string rule, .string text, .int .i64 n] w fun e w' => e = .returned (.bool true) ∧ Below w.heap.size w w' := by
  have hR := fun w => right_any rule text w h1 h2
  rw [hr] at hR
  have z0 : (K == 0) = false := by simpa using hk
  have z1 : (K != 0) = true := by simpa using hk
  go_enter Tryz.func11, Tryz.ntmps11
  go_wp2_with (first
    | (go_at_call 35; refine (hRu _).mono ?_; rintro e w1 ⟨rfl, b1⟩)
    | (go_at_call 36; first | (with_reducible refine (hPr _ (tab_up ht b1 b1.size)).mono ?_; rintro e w2 ⟨rfl, c⟩; have b2 := b1.trans (c.mono b1.size); clear c) | (with_reducible refine (hP2 _ (tab_up ht b7 b7.size)).mono ?_; rintro e w8 ⟨rfl, c⟩; have b8 := b7.trans (c.mono b7.size); have t8 := (c.block _ (blk_lt t7)).trans t7; clear c))
    | (go_at_call 12; refine (hSt _ (tab_up ht b2 b2.size)).mono ?_; rintro e w3 ⟨rfl, c⟩; have b3 := b2.trans (c.mono b2.size); clear c)
    | (go_at_call 20; first | (with_reducible refine (hOr _).mono ?_; rintro e w4 ⟨rfl, c⟩; have b4 := (b3.trans (c.mono b3.size)).alloc (b3.trans (c.mono b3.size)).size (.cells #[.int .i64 y1, .int .i64 y2, .int .i64 y3, .int .i64 y4] 37); have t4 := blk_new w4 (.cells #[.int .i64 y1, .int .i64 y2, .int .i64 y3, .int .i64 y4] 37); clear c) | (with_reducible refine (hO2 _).mono ?_; rintro e w9 ⟨rfl, c⟩; have b9 := (b8.trans (c.mono b8.size)).alloc (b8.trans (c.mono b8.size)).size (.cells #[.int .i64 y1, .int .i64 y2, .int .i64 y3, .int .i64 y4] 37); have t9 := blk_old ((c.block _ (blk_lt t8)).trans t8) (.cells #[.int .i64 y1, .int .i64 y2, .int .i64 y3, .int .i64 y4] 37); have s9 := blk_new w9 (.cells #[.int .i64 y1, .int .i64 y2, .int .i64 y3, .int .i64 y4] 37); clear c))
    | (go_at_call 26; refine (hPa _ (tab_up ht b4 b4.size)).mono ?_; rintro e w5 ⟨⟨v5, rfl⟩, c⟩; have b5 := b4.trans (c.mono b4.size); have t5 := (c.block _ (blk_lt t4)).trans t4; clear c)
    | (go_at_call 33; refine (hCo _ (tab_up ht b5 b5.size) (hT.on b5 (Nat.le_refl _))).mono ?_; rintro e w6 ⟨rfl, c⟩; have b6 := b5.trans (c.mono b5.size); have t6 := (c.block _ (blk_lt t5)).trans t5; clear c)
    | (go_at_call 17; refine (hR _).mono ?_; rintro e w7 ⟨rfl, c⟩; have b7 := b6.trans (c.mono b6.size); have t7 := (c.block _ (blk_lt t6)).trans t6; clear c)
    | (go_at_call 18; refine (known_any _ _).mono ?_; rintro e wk ⟨rfl, rfl⟩)
    | (go_at_call 14; refine (num_any _ _).mono ?_; rintro e wk ⟨rfl, rfl⟩))
  go_ret
  exact ⟨rfl, b7⟩

set_option maxRecDepth 100000 in
set_option maxHeartbeats 3200000 in
theorem agree_long (rule text s gs tc t : ByteArray) (n y1 y2 y3 y4 kc kd kf kg ih : Int) (w : World) (h1 : rule.size ≤ maxLen) (h2 : text.size ≤ maxLen) (ht : Tab w.heap.size w) (hT : TurnTab w)
    (hRu : ∀ w, Calls Tryz.prog 35 #[.string rule] w fun e w' => e = .returned (.tuple #[.int .i64 0, .int .i64 0]) ∧ Below w.heap.size w w')
    (hPr : ∀ w, Tab w.heap.size w → Calls Tryz.prog 36 #[.string text] w fun e w' => e = .returned (.tuple #[.string s, .int .i64 0, .int .i64 0]) ∧ Below w.heap.size w w')
    (hSt : ∀ w, Tab w.heap.size w → Calls Tryz.prog 12 #[.string rule, .string text, .int .i64 n] w fun e w' => e = .returned (.tuple #[.string gs, .int .i64 kc, .int .i64 0]) ∧ Below w.heap.size w w')
    (hOr : ∀ w, Calls Tryz.prog 20 #[.string rule, .string text] w fun e w' => e = .returned (.tuple #[.agg #[.int .i64 y1, .int .i64 y2, .int .i64 y3, .int .i64 y4], .int .i64 kd, .int .i64 0]) ∧ Below w.heap.size w w')
    (hPa : ∀ w, Tab w.heap.size w → Calls Tryz.prog 26 #[.string rule, .string text] w fun e w' => (∃ v, e = .returned (.tuple #[v, .int .i64 kf, .int .i64 0])) ∧ Below w.heap.size w w')
    (hCo : ∀ w, Tab w.heap.size w → TurnTab w → Calls Tryz.prog 33 #[.string rule, .string text] w fun e w' => e = .returned (.tuple #[.string tc, .int .i64 kg, .int .i64 0]) ∧ Below w.heap.size w w')
    (hP2 : ∀ w, Tab w.heap.size w → Calls Tryz.prog 36 #[.string s] w fun e w' => e = .returned (.tuple #[.string t, .int .i64 1, .int .i64 ih]) ∧ Below w.heap.size w w')
    (hr : rightB rule text = true) (hl : 1500 < s.size) :
    Calls Tryz.prog 11 #[.string rule, .string text, .int .i64 n] w fun e w' => e = .returned (.bool true) ∧ Below w.heap.size w w' := by
  have hR := fun w => right_any rule text w h1 h2
  rw [hr] at hR
  have z4 : decide ((1500 : Int) < (s.size : Int)) = true := decide_eq_true (by omega)
  go_enter Tryz.func11, Tryz.ntmps11
  go_wp2_with (first
    | (go_at_call 35; refine (hRu _).mono ?_; rintro e w1 ⟨rfl, b1⟩)
    | (go_at_call 36; first | (with_reducible refine (hPr _ (tab_up ht b1 b1.size)).mono ?_; rintro e w2 ⟨rfl, c⟩; have b2 := b1.trans (c.mono b1.size); clear c) | (with_reducible refine (hP2 _ (tab_up ht b7 b7.size)).mono ?_; rintro e w8 ⟨rfl, c⟩; have b8 := b7.trans (c.mono b7.size); have t8 := (c.block _ (blk_lt t7)).trans t7; clear c))
    | (go_at_call 12; refine (hSt _ (tab_up ht b2 b2.size)).mono ?_; rintro e w3 ⟨rfl, c⟩; have b3 := b2.trans (c.mono b2.size); clear c)
    | (go_at_call 20; first | (with_reducible refine (hOr _).mono ?_; rintro e w4 ⟨rfl, c⟩; have b4 := (b3.trans (c.mono b3.size)).alloc (b3.trans (c.mono b3.size)).size (.cells #[.int .i64 y1, .int .i64 y2, .int .i64 y3, .int .i64 y4] 37); have t4 := blk_new w4 (.cells #[.int .i64 y1, .int .i64 y2, .int .i64 y3, .int .i64 y4] 37); clear c) | (with_reducible refine (hO2 _).mono ?_; rintro e w9 ⟨rfl, c⟩; have b9 := (b8.trans (c.mono b8.size)).alloc (b8.trans (c.mono b8.size)).size (.cells #[.int .i64 y1, .int .i64 y2, .int .i64 y3, .int .i64 y4] 37); have t9 := blk_old ((c.block _ (blk_lt t8)).trans t8) (.cells #[.int .i64 y1, .int .i64 y2, .int .i64 y3, .int .i64 y4] 37); have s9 := blk_new w9 (.cells #[.int .i64 y1, .int .i64 y2, .int .i64 y3, .int .i64 y4] 37); clear c))
    | (go_at_call 26; refine (hPa _ (tab_up ht b4 b4.size)).mono ?_; rintro e w5 ⟨⟨v5, rfl⟩, c⟩; have b5 := b4.trans (c.mono b4.size); have t5 := (c.block _ (blk_lt t4)).trans t4; clear c)
    | (go_at_call 33; refine (hCo _ (tab_up ht b5 b5.size) (hT.on b5 (Nat.le_refl _))).mono ?_; rintro e w6 ⟨rfl, c⟩; have b6 := b5.trans (c.mono b5.size); have t6 := (c.block _ (blk_lt t5)).trans t5; clear c)
    | (go_at_call 17; refine (hR _).mono ?_; rintro e w7 ⟨rfl, c⟩; have b7 := b6.trans (c.mono b6.size); have t7 := (c.block _ (blk_lt t6)).trans t6; clear c)
    | (go_at_call 18; refine (known_any _ _).mono ?_; rintro e wk ⟨rfl, rfl⟩)
    | (go_at_call 14; refine (num_any _ _).mono ?_; rintro e wk ⟨rfl, rfl⟩))
  go_ret
  exact ⟨rfl, b8⟩

set_option maxRecDepth 100000 in
set_option maxHeartbeats 6400000 in
theorem agree_told (rule text s gs tc : ByteArray) (n y1 y2 y3 y4 kc kd kf ih jq : Int) (w : World) (h1 : rule.size ≤ maxLen) (h2 : text.size ≤ maxLen) (ht : Tab w.heap.size w) (hT : TurnTab w)
    (hRu : ∀ w, Calls Tryz.prog 35 #[.string rule] w fun e w' => e = .returned (.tuple #[.int .i64 0, .int .i64 0]) ∧ Below w.heap.size w w')
    (hPr : ∀ w, Tab w.heap.size w → Calls Tryz.prog 36 #[.string text] w fun e w' => e = .returned (.tuple #[.string s, .int .i64 0, .int .i64 0]) ∧ Below w.heap.size w w')
    (hSt : ∀ w, Tab w.heap.size w → Calls Tryz.prog 12 #[.string rule, .string text, .int .i64 n] w fun e w' => e = .returned (.tuple #[.string gs, .int .i64 kc, .int .i64 0]) ∧ Below w.heap.size w w')
    (hOr : ∀ w, Calls Tryz.prog 20 #[.string rule, .string text] w fun e w' => e = .returned (.tuple #[.agg #[.int .i64 y1, .int .i64 y2, .int .i64 y3, .int .i64 y4], .int .i64 kd, .int .i64 0]) ∧ Below w.heap.size w w')
    (hPa : ∀ w, Tab w.heap.size w → Calls Tryz.prog 26 #[.string rule, .string text] w fun e w' => (∃ v, e = .returned (.tuple #[v, .int .i64 kf, .int .i64 0])) ∧ Below w.heap.size w w')
    (hCo : ∀ w, Tab w.heap.size w → TurnTab w → Calls Tryz.prog 33 #[.string rule, .string text] w fun e w' => e = .returned (.tuple #[.string tc, .int .i64 kd, .int .i64 0]) ∧ Below w.heap.size w w')
    (hP2 : ∀ w, Tab w.heap.size w → Calls Tryz.prog 36 #[.string s] w fun e w' => e = .returned (.tuple #[.string s, .int .i64 0, .int .i64 ih]) ∧ Below w.heap.size w w')
    (hO2 : ∀ w, Calls Tryz.prog 20 #[.string rule, .string s] w fun e w' => e = .returned (.tuple #[.agg #[.int .i64 y1, .int .i64 y2, .int .i64 y3, .int .i64 y4], .int .i64 kd, .int .i64 jq]) ∧ Below w.heap.size w w')
    (hr : rightB rule text = true) (hl : s.size ≤ 1500) (hq : kf = kd ∨ (kd = 0 ∧ kf = 4)) :
    Calls Tryz.prog 11 #[.string rule, .string text, .int .i64 n] w fun e w' => e = .returned (.bool true) ∧ Below w.heap.size w w' := by
  have hR := fun w => right_any rule text w h1 h2
  rw [hr] at hR
  have hF := fun w ht => fresh_any rule text w h1 h2 ht
  have z4 : decide ((1500 : Int) < (s.size : Int)) = false := decide_eq_false (by omega)
  have heq := fun w => eqIn_cyc y1 y2 y3 y4 w
  rcases hq with rfl | ⟨rfl, rfl⟩
  all_goals (
    go_enter Tryz.func11, Tryz.ntmps11
    go_wp2_with (first
      | (go_at_call 35; refine (hRu _).mono ?_; rintro e w1 ⟨rfl, b1⟩)
      | (go_at_call 36; first | (with_reducible refine (hPr _ (tab_up ht b1 b1.size)).mono ?_; rintro e w2 ⟨rfl, c⟩; have b2 := b1.trans (c.mono b1.size); clear c) | (with_reducible refine (hP2 _ (tab_up ht b7 b7.size)).mono ?_; rintro e w8 ⟨rfl, c⟩; have b8 := b7.trans (c.mono b7.size); have t8 := (c.block _ (blk_lt t7)).trans t7; clear c))
      | (go_at_call 12; refine (hSt _ (tab_up ht b2 b2.size)).mono ?_; rintro e w3 ⟨rfl, c⟩; have b3 := b2.trans (c.mono b2.size); clear c)
      | (go_at_call 20; first | (with_reducible refine (hOr _).mono ?_; rintro e w4 ⟨rfl, c⟩; have b4 := (b3.trans (c.mono b3.size)).alloc (b3.trans (c.mono b3.size)).size (.cells #[.int .i64 y1, .int .i64 y2, .int .i64 y3, .int .i64 y4] 37); have t4 := blk_new w4 (.cells #[.int .i64 y1, .int .i64 y2, .int .i64 y3, .int .i64 y4] 37); clear c) | (with_reducible refine (hO2 _).mono ?_; rintro e w9 ⟨rfl, c⟩; have b9 := (b8.trans (c.mono b8.size)).alloc (b8.trans (c.mono b8.size)).size (.cells #[.int .i64 y1, .int .i64 y2, .int .i64 y3, .int .i64 y4] 37); have t9 := blk_old ((c.block _ (blk_lt t8)).trans t8) (.cells #[.int .i64 y1, .int .i64 y2, .int .i64 y3, .int .i64 y4] 37); have s9 := blk_new w9 (.cells #[.int .i64 y1, .int .i64 y2, .int .i64 y3, .int .i64 y4] 37); clear c))
      | (go_at_call 26; refine (hPa _ (tab_up ht b4 b4.size)).mono ?_; rintro e w5 ⟨⟨v5, rfl⟩, c⟩; have b5 := b4.trans (c.mono b4.size); have t5 := (c.block _ (blk_lt t4)).trans t4; clear c)
      | (go_at_call 33; refine (hCo _ (tab_up ht b5 b5.size) (hT.on b5 (Nat.le_refl _))).mono ?_; rintro e w6 ⟨rfl, c⟩; have b6 := b5.trans (c.mono b5.size); have t6 := (c.block _ (blk_lt t5)).trans t5; clear c)
      | (go_at_call 17; refine (hR _).mono ?_; rintro e w7 ⟨rfl, c⟩; have b7 := b6.trans (c.mono b6.size); have t7 := (c.block _ (blk_lt t6)).trans t6; clear c)
      | (go_at_call 37; refine (hF _ (tab_up ht b9 b9.size)).mono ?_; rintro e w10 ⟨rfl, c⟩; have b10 := b9.trans (c.mono b9.size); have t10 := (c.block _ (blk_lt t9)).trans t9; have s10 := (c.block _ (blk_lt s9)).trans s9; clear c; have n0 := cell_of t10 0; have n1 := cell_of t10 1; have n2 := cell_of t10 2; have n3 := cell_of t10 3; have m0 := cell_of s10 0; have m1 := cell_of s10 1; have m2 := cell_of s10 2; have m3 := cell_of s10 3)
      | (go_at_call 18; refine (known_any _ _).mono ?_; rintro e wk ⟨rfl, rfl⟩)
      | (go_at_call 14; refine (num_any _ _).mono ?_; rintro e wk ⟨rfl, rfl⟩))
    go_ret
    exact ⟨rfl, b10⟩)

end Go.Proofs.YtiohpcnnpmnjhaaGreatDoor

namespace Go.Proofs.YtiohpcnnpmnjhaaGreatDoor
open Go.RowKit Go.Shelf
set_option linter.unusedVariables false

/-- What is read is not too far out. -/
theorem patR_near {s : ByteArray} {C : List Cel} (h : patR s = .inr C) : farL C = false := by
  unfold patR at h
  split at h
  · cases h
  split at h
  · cases h
  rename_i x y l hp
  split at h
  · cases h
  rename_i hf
  split at h
  · cases h
  cases h
  simp only [Bool.or_eq_true, not_or, Bool.not_eq_true] at hf
  have hs := List.any_eq_false.1 hf.2
  unfold farL
  rw [List.any_eq_false]
  intro c hc
  obtain ⟨sp, hsp, hcs⟩ := List.mem_flatMap.1 hc
  have h1 := hs sp hsp
  simp only [farS, Bool.not_eq_true, Bool.or_eq_false_iff] at h1
  unfold spanCells at hcs
  have h2 := mem_runCells hcs
  have a1 := farB_false.1 h1.1
  have a2 := farB_false.1 h1.2
  rw [Bool.not_eq_true, farB_false]
  omega

/-- The law Agree. -/
theorem agree_walk (rule text : ByteArray) (n : Int) (h1 : rule.size ≤ maxLen) (h2 : text.size ≤ maxLen) (w : World) (ht : Tab w.heap.size w) (hT : TurnTab w) :
    Calls Tryz.prog 11 #[.string rule, .string text, .int .i64 n] w fun e w' => e = .returned (.bool true) ∧ Below w.heap.size w w' := by
  have hRu := fun w => rule_any rule w h1
  have hPr := fun w ht => print_any text w h2 ht
  have hSt := fun w ht => step_any rule text n w h1 h2 ht
  have hOr := fun w => orbit_any rule text w h1 h2
  have hPa : ∀ w, Tab w.heap.size w → Calls Tryz.prog 26 #[.string rule, .string text] w fun e w' => (∃ v, e = .returned (.tuple #[v, .int .i64 (partsA rule text).2.1, .int .i64 (partsA rule text).2.2])) ∧ Below w.heap.size w w' := fun w ht => (parts_any rule text w h1 h2 ht).mono fun e w' ⟨⟨v, he, _⟩, hb⟩ => ⟨⟨v, he⟩, hb⟩
  have hCo := fun w ht hT => code_any rule text w h1 h2 ht hT
  obtain ⟨⟨⟨y1, y2, y3, y4⟩, ko, io⟩, hOA⟩ : ∃ A, orbitA rule text = A := ⟨_, rfl⟩
  simp only [hOA, cycC] at hOr
  cases hr : ruleR rule with
  | inl x =>
    obtain ⟨k, i⟩ := x
    have hk := ruleR_bad hr
    simp at hk
    have e1 : ruleT rule = (k, (i : Int)) := by unfold ruleT; rw [hr]
    have e2 : stepA rule text n = (⟨#[]⟩, k, (i : Int)) := by unfold stepA; rw [hr]
    have e3 : orbitA rule text = ((0, 0, 0, 0), k, (i : Int)) := by unfold orbitA; rw [hr]
    have e4 : partsA rule text = ([], k, (i : Int)) := by unfold partsA; rw [hr]
    have e5 : codeA rule text = (⟨#[]⟩, k, (i : Int)) := by unfold codeA; rw [hr]
    have e6 : rightB rule text = false := by unfold rightB; rw [hr]
    rw [e3] at hOA
    cases hOA
    simp only [e1] at hRu
    simp only [e2] at hSt
    simp only [e4] at hPa
    simp only [e5] at hCo
    exact agree_rule rule text _ _ _ n 0 0 0 0 ko i _ _ w h1 h2 ht hT hRu hPr hSt hOr hPa hCo e6 hk
  | inr x =>
    obtain ⟨f, g⟩ := x
    have e1 : ruleT rule = (0, 0) := by unfold ruleT; rw [hr]
    simp only [e1] at hRu
    cases hp : patR text with
    | inl x =>
      obtain ⟨k, i⟩ := x
      have hk := patR_bad hp
      simp at hk
      have e0 : printT text = (⟨#[]⟩, k, (i : Int)) := by unfold printT; rw [hp]
      have e2 : stepA rule text n = (⟨#[]⟩, k, (i : Int)) := by unfold stepA; rw [hr]; simp only [hp]
      have e3 : orbitA rule text = ((0, 0, 0, 0), k, (i : Int)) := by unfold orbitA; rw [hr]; simp only [hp]
      have e4 : partsA rule text = ([], k, (i : Int)) := by unfold partsA; rw [hr]; simp only [hp]
      have e5 : codeA rule text = (⟨#[]⟩, k, (i : Int)) := by unfold codeA; rw [hr]; simp only [hp]
      have e6 : rightB rule text = false := by unfold rightB; rw [hr]; simp only [hp]
      rw [e3] at hOA
      cases hOA
      simp only [e0] at hPr
      simp only [e2] at hSt
      simp only [e4] at hPa
      simp only [e5] at hCo
      exact agree_text rule text _ _ _ n 0 0 0 0 ko i w h1 h2 ht hT hRu hPr hSt hOr hPa hCo e6 hk
    | inr C =>
      have e0 : printT text = (⟨(plainB C).toArray⟩, 0, 0) := by unfold printT; rw [hp]
      have e6 : rightB rule text = true := by unfold rightB; rw [hr]; simp only [hp]
      have e2 : ∃ gs kc, stepA rule text n = (gs, kc, 0) := by
        rw [stepA_of hr hp]
        split
        · exact ⟨_, _, rfl⟩
        · exact ⟨_, _, rfl⟩
      obtain ⟨gs, kc, e2⟩ := e2
      have e3 : ∃ kf tc, io = 0 ∧ (partsA rule text).2 = (kf, 0) ∧ codeA rule text = (tc, ko, 0) ∧ (kf = ko ∨ (ko = 0 ∧ kf = 4)) := by
        unfold orbitA at hOA
        unfold partsA codeA
        rw [hr] at hOA ⊢
        simp only [hp] at hOA ⊢
        cases hc : course f g C with
        | inl k =>
          rw [hc] at hOA
          cases hOA
          exact ⟨_, _, rfl, rfl, rfl, .inl rfl⟩
        | inr x =>
          obtain ⟨t, s⟩ := x
          rw [hc] at hOA
          simp only [Prod.mk.injEq] at hOA
          obtain ⟨_, rfl, rfl⟩ := hOA
          simp only
          by_cases hf : farL (gen f g C s) = true
          · rw [if_pos hf]; exact ⟨_, _, trivial, rfl, rfl, .inr ⟨trivial, rfl⟩⟩
          · rw [if_neg hf]; exact ⟨_, _, trivial, rfl, rfl, .inl rfl⟩
      obtain ⟨kf, tc, rfl, e4, e5, hq⟩ := e3
      simp only [e0] at hPr
      simp only [e2] at hSt
      simp only [e4] at hPa
      simp only [e5] at hCo
      obtain ⟨X, Y, hf, hbx⟩ := patR_tight hp
      have hz : (⟨(plainB C).toArray⟩ : ByteArray).size = (plainB C).length := by show (plainB C).toArray.size = _; simp
      have hsm := plain_small hf
      have h3 : (⟨(plainB C).toArray⟩ : ByteArray).size ≤ maxLen := by rw [hz]; unfold maxLen; omega
      have hP2 := fun w ht => print_any ⟨(plainB C).toArray⟩ w h3 ht
      by_cases hl : (plainB C).length ≤ 1500
      rotate_left
      · have e7 : printT ⟨(plainB C).toArray⟩ = (⟨#[]⟩, 1, 0) := by unfold printT; rw [patR_long hl]; rfl
        simp only [e7] at hP2
        exact agree_long rule text _ _ _ _ n y1 y2 y3 y4 kc ko kf ko 0 w h1 h2 ht hT hRu hPr hSt hOr hPa hCo hP2 e6 (by rw [hz]; omega)
      · have hp2 := patR_plain hf.asc hf.len (patR_near hp) hl
        have e7 : printT ⟨(plainB C).toArray⟩ = (⟨(plainB C).toArray⟩, 0, 0) := by unfold printT; rw [hp2]
        simp only [e7] at hP2
        have hO2 := fun w => orbit_any rule ⟨(plainB C).toArray⟩ w h1 h3
        have e8 : orbitA rule ⟨(plainB C).toArray⟩ = ((y1, y2, y3, y4), ko, 0) := by
          rw [← hOA]
          unfold orbitA
          rw [hr]
          simp only [hp, hp2]
        simp only [e8, cycC] at hO2
        exact agree_told rule text _ _ _ n y1 y2 y3 y4 kc ko kf 0 0 w h1 h2 ht hT hRu hPr hSt hOr hPa hCo hP2 hO2 e6 (by rw [hz]; exact hl) hq

end Go.Proofs.YtiohpcnnpmnjhaaGreatDoor
