import Derived.Test.YtiohpcnnpmnjhaaGreatDoorRSuM
import Derived.Test.YtiohpcnnpmnjhaaGreatDoorRefWrite
import Derived.Test.YtiohpcnnpmnjhaaGreatDoorRulM
import Derived.Test.YtiohpcnnpmnjhaaGreatDoorStpM
namespace Go.Proofs.YtiohpcnnpmnjhaaGreatDoor
open Go.RowKit Go.Shelf
set_option linter.unusedVariables false

set_option maxRecDepth 100000 in
set_option maxHeartbeats 800000 in
/-- The law where an error is told. -/
theorem steps_bad (rule text : ByteArray) (n k i : Int) (w : World) (hk : k ≠ 0)
    (hP : Calls Tryz.prog 12 #[.string rule, .string text, .int .i64 n] w fun e w' => e = .returned (.tuple #[.string ⟨#[]⟩, .int .i64 k, .int .i64 i]) ∧ Below w.heap.size w w')
    (hR : ∀ w, Calls Tryz.prog 13 #[.string rule, .string text, .int .i64 n] w fun e w' => e = .returned (.tuple #[.slice none 0 0, .int .i64 k, .int .i64 i]) ∧ Below w.heap.size w w') :
    Calls Tryz.prog 3 #[.string rule, .string text, .int .i64 n] w fun e w' => e = .returned (.bool true) ∧ Below w.heap.size w w' := by
  have hk0 : (k == 0) = false := by simpa using hk
  have hk1 : (k != 0) = true := by simp [hk]
  have hk2 : ¬ k = 0 := hk
  go_enter Tryz.func3, Tryz.ntmps3
  go_wp2_with (first
    | (go_at_call 12; refine hP.mono ?_; rintro e w1 ⟨rfl, b1⟩; clear hP)
    | (go_at_call 13; refine (hR _).mono ?_; rintro e w2 ⟨rfl, b2⟩)
    | (go_at_call 14; refine (num_any k _).mono ?_; rintro e w3 ⟨rfl, rfl⟩))
  go_ret
  exact ⟨rfl, b1.trans (b2.mono b1.size)⟩

set_option maxRecDepth 100000 in
set_option maxHeartbeats 800000 in
/-- The law where a pattern is told. -/
theorem steps_good (rule text : ByteArray) (n : Int) (w : World) (D : List Cel) (X Y : Int) (hf : Fine D X Y)
    (hP : Calls Tryz.prog 12 #[.string rule, .string text, .int .i64 n] w fun e w' => e = .returned (.tuple #[.string ⟨(plainB D).toArray⟩, .int .i64 0, .int .i64 0]) ∧ Below w.heap.size w w')
    (hR : ∀ w, Calls Tryz.prog 13 #[.string rule, .string text, .int .i64 n] w (RStepOut (.inr D) w)) :
    Calls Tryz.prog 3 #[.string rule, .string text, .int .i64 n] w fun e w' => e = .returned (.bool true) ∧ Below w.heap.size w w' := by
  go_enter Tryz.func3, Tryz.ntmps3
  go_wp2_with (first
    | (go_at_call 12; refine hP.mono ?_; rintro e w1 ⟨rfl, b1⟩; clear hP)
    | (go_at_call 13; refine (hR _).mono ?_; rintro e w2 ⟨b2, v, rfl, own⟩)
    | (go_at_call 14; refine (num_any 0 _).mono ?_; rintro e w3 ⟨rfl, rfl⟩)
    | (go_at_call 15; refine (write_any X Y _ _ D _ own hf).mono ?_; rintro e w4 ⟨rfl, b4⟩))
  go_ret
  exact ⟨rfl, (b1.trans (b2.mono b1.size)).trans (b4.mono (Nat.le_trans b1.size b2.size))⟩

/-- The law: Step's answer is the reference's. -/
theorem steps_walk (rule text : ByteArray) (n : Int) (h1 : rule.size ≤ maxLen) (h2 : text.size ≤ maxLen) (w : World) (ht : Tab w.heap.size w) :
    Calls Tryz.prog 3 #[.string rule, .string text, .int .i64 n] w fun e w' => e = .returned (.bool true) ∧ Below w.heap.size w w' := by
  have hP := step_any rule text n w h1 h2 ht
  have hG := fun w => given_any rule text w h1 h2
  cases hr : ruleR rule with
  | inl x =>
    obtain ⟨k, i⟩ := x
    have hA : stepA rule text n = (⟨#[]⟩, k, (i : Int)) := by unfold stepA; rw [hr]
    rw [hA] at hP
    have hk := ruleR_bad hr
    exact steps_bad rule text n k i w (by simpa using hk) hP fun w => refStep_bad rule text n w noD noD k i hk fun w => (hG w).mono fun e w' h => by unfold GivenOut at h; rw [hr] at h; exact ⟨h.2, h.1⟩
  | inr x =>
    obtain ⟨f, g⟩ := x
    cases hp : patR text with
    | inl x =>
      obtain ⟨k, i⟩ := x
      have hA : stepA rule text n = (⟨#[]⟩, k, (i : Int)) := by unfold stepA; rw [hr]; simp only [hp]
      rw [hA] at hP
      have hk := patR_bad hp
      exact steps_bad rule text n k i w (by simpa using hk) hP fun w => refStep_bad rule text n w f g k i hk fun w => (hG w).mono fun e w' h => by unfold GivenOut at h; rw [hr] at h; simp only [hp] at h; exact ⟨h.2, h.1⟩
    | inr C =>
      obtain ⟨X, Y, hf, hbx⟩ := patR_tight hp
      have hG' : ∀ w, Calls Tryz.prog 43 #[.string rule, .string text] w fun e w' => ∃ v, e = .returned (.tuple #[.agg (twoN f g), v, .int .i64 0, .int .i64 0]) ∧ Below w.heap.size w w' ∧ w'.ownsRow w.heap.size 44 2 v C.length (flatC C) := fun w => (hG w).mono fun e w' h => by
        unfold GivenOut at h; rw [hr] at h; simp only [hp] at h; obtain ⟨hb, v, he, own⟩ := h; exact ⟨v, he, hb, own⟩
      have hS := fun w => refStep_good rule text n w f g C X Y hf hG'
      cases ha : afterR f g C n with
      | inl k =>
        have hA : stepA rule text n = (⟨#[]⟩, k, 0) := by unfold stepA; rw [hr]; simp only [hp, ha]
        rw [hA] at hP
        rw [ha] at hS
        exact steps_bad rule text n k 0 w (afterR_ne ha) hP fun w => (hS w).mono fun e w' h => ⟨h.2, h.1⟩
      | inr D =>
        have hA : stepA rule text n = (⟨(plainB D).toArray⟩, 0, 0) := by unfold stepA; rw [hr]; simp only [hp, ha]
        rw [hA] at hP
        rw [ha] at hS
        obtain ⟨X', Y', hf'⟩ := afterR_fine hf hbx ha
        exact steps_good rule text n w D X' Y' hf' hP hS

end Go.Proofs.YtiohpcnnpmnjhaaGreatDoor
