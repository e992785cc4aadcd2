import Derived.Test.YtggijopbcannfaaExpect
namespace Go.Proofs.Ytggijopbcannfaa
set_option linter.unusedVariables false
open Go.RowKit

/-- The document's answer to a rule's text: nothing wrong, or the error and its place. -/
def ruleR (s : ByteArray) : Option (Int × Nat) :=
  if 24 < s.size then some (1, 0)
  else if pk s 0 = 66 then
    if pk s (riseEnd s 1 49) = 47 then
      if pk s (riseEnd s 1 49 + 1) = 83 then
        if riseEnd s (riseEnd s 1 49 + 2) 48 < s.size then some (3, riseEnd s (riseEnd s 1 49 + 2) 48) else none
      else some (3, riseEnd s 1 49 + 1)
    else some (3, riseEnd s 1 49)
  else some (3, 0)

def readOut (s : ByteArray) : Ending :=
  match ruleR s with
  | none => .returned (.tuple #[])
  | some (k, i) => .panicked (refusal k i)

theorem At.new (w : World) (s : ByteArray) : At (w.alloc (.cells #[.string s, .int .i64 0, .int .i64 3] 40)) w.heap.size s 0 :=
  ⟨by simp, by simp, by simp, by simp⟩

theorem lt_of_pk {s : ByteArray} {i : Nat} (h : 0 < pk s i) : i < s.size := by
  by_cases hlt : i < s.size
  · exact hlt
  · have := pk_out hlt; omega

set_option maxHeartbeats 800000 in
theorem readRule_any (s : ByteArray) (w : World) (hm : s.size ≤ maxLen) :
    Calls Try.prog 9 #[.string s] w fun e w' => e = readOut s ∧ Below w.heap.size w w' := by
  unfold maxLen at hm
  have h0 := At.new w s
  have hbl : Below w.heap.size w (w.alloc (.cells #[.string s, .int .i64 0, .int .i64 3] 40)) := (Below.refl _ _).alloc (Nat.le_refl _) _
  by_cases hs : 24 < s.size
  · go_enter Try.func9, Try.ntmps9
    go_wp2_with (go_at_call 12; refine (giveUp_any _ _ _).mono ?_; rintro e w' ⟨rfl, rfl⟩)
    exact ⟨rfl, by simp [readOut, ruleR, hs, refusal], Below.refl _ _⟩
  have hs' : s.size ≤ 24 := by omega
  by_cases hB : pk s 0 = 66
  rotate_left
  · have hB' : (pk s 0 == 66) = false := by simpa using hB
    go_enter Try.func9, Try.ntmps9
    go_wp2_with (go_at_call_of 13 (Value.int IntKind.u8 66); refine (expect_miss w.heap.size s 0 66 _ h0 (Nat.zero_le _) hs' hB').mono ?_; rintro e w' ⟨rfl, hb⟩)
    exact ⟨rfl, by simp [readOut, ruleR, hs, hB], hbl.trans hb⟩
  have hl0 := lt_of_pk (s := s) (i := 0) (by omega)
  have hr1 := riseEnd_le s 1 49 (by omega)
  by_cases hS : pk s (riseEnd s 1 49) = 47
  rotate_left
  · have hS' : (pk s (riseEnd s 1 49) == 47) = false := by simpa using hS
    go_enter Try.func9, Try.ntmps9
    go_wp2_with (first
      | (go_at_call_of 13 (Value.int IntKind.u8 66); refine (expect_hit w.heap.size s 0 66 _ h0 (Nat.zero_le _) hs' hB).mono ?_; rintro e w1 ⟨rfl, h1, b1⟩)
      | (go_at_call_of 14 (Value.int IntKind.u8 49); refine (rising_any w.heap.size s 1 49 _ h1 (by omega) hs' (by omega) (by omega)).mono ?_; rintro e w2 ⟨rfl, h2, b2⟩)
      | (go_at_call_of 13 (Value.int IntKind.u8 47); refine (expect_miss w.heap.size s _ 47 _ h2 hr1.2 hs' hS').mono ?_; rintro e w3 ⟨rfl, b3⟩))
    exact ⟨rfl, by simp [readOut, ruleR, hs, hB, hS], ((hbl.trans b1).trans b2).trans b3⟩
  have hl1 := lt_of_pk (s := s) (i := riseEnd s 1 49) (by omega)
  by_cases hT : pk s (riseEnd s 1 49 + 1) = 83
  rotate_left
  · have hT' : (pk s (riseEnd s 1 49 + 1) == 83) = false := by simpa using hT
    go_enter Try.func9, Try.ntmps9
    go_wp2_with (first
      | (go_at_call_of 13 (Value.int IntKind.u8 66); refine (expect_hit w.heap.size s 0 66 _ h0 (Nat.zero_le _) hs' hB).mono ?_; rintro e w1 ⟨rfl, h1, b1⟩)
      | (go_at_call_of 14 (Value.int IntKind.u8 49); refine (rising_any w.heap.size s 1 49 _ h1 (by omega) hs' (by omega) (by omega)).mono ?_; rintro e w2 ⟨rfl, h2, b2⟩)
      | (go_at_call_of 13 (Value.int IntKind.u8 47); refine (expect_hit w.heap.size s _ 47 _ h2 hr1.2 hs' hS).mono ?_; rintro e w3 ⟨rfl, h3, b3⟩)
      | (go_at_call_of 13 (Value.int IntKind.u8 83); refine (expect_miss w.heap.size s _ 83 _ h3 (by omega) hs' hT').mono ?_; rintro e w4 ⟨rfl, b4⟩))
    exact ⟨rfl, by simp [readOut, ruleR, hs, hB, hS, hT], (((hbl.trans b1).trans b2).trans b3).trans b4⟩
  have hl2 := lt_of_pk (s := s) (i := riseEnd s 1 49 + 1) (by omega)
  have hr2 := riseEnd_le s (riseEnd s 1 49 + 2) 48 (by omega)
  by_cases hE : riseEnd s (riseEnd s 1 49 + 2) 48 < s.size
  · go_enter Try.func9, Try.ntmps9
    go_wp2_with (first
      | (go_at_call_of 13 (Value.int IntKind.u8 66); refine (expect_hit w.heap.size s 0 66 _ h0 (Nat.zero_le _) hs' hB).mono ?_; rintro e w1 ⟨rfl, h1, b1⟩)
      | (go_at_call_of 14 (Value.int IntKind.u8 49); refine (rising_any w.heap.size s 1 49 _ h1 (by omega) hs' (by omega) (by omega)).mono ?_; rintro e w2 ⟨rfl, h2, b2⟩)
      | (go_at_call_of 13 (Value.int IntKind.u8 47); refine (expect_hit w.heap.size s _ 47 _ h2 hr1.2 hs' hS).mono ?_; rintro e w3 ⟨rfl, h3, b3⟩)
      | (go_at_call_of 13 (Value.int IntKind.u8 83); refine (expect_hit w.heap.size s _ 83 _ h3 (by omega) hs' hT).mono ?_; rintro e w4 ⟨rfl, h4, b4⟩)
      | (go_at_call_of 14 (Value.int IntKind.u8 48); refine (rising_any w.heap.size s _ 48 _ h4 (by omega) hs' (by omega) (by omega)).mono ?_; rintro e w5 ⟨rfl, h5, b5⟩)
      | (go_at_call 15; refine (expectEnd_miss w.heap.size s _ _ h5 hE hs').mono ?_; rintro e w6 ⟨rfl, b6⟩))
    exact ⟨rfl, by simp [readOut, ruleR, hs, hB, hS, hT, hE], (((((hbl.trans b1).trans b2).trans b3).trans b4).trans b5).trans b6⟩
  · have hE' : riseEnd s (riseEnd s 1 49 + 1 + 1) 48 = s.size := by show riseEnd s (riseEnd s 1 49 + 2) 48 = s.size; omega
    go_enter Try.func9, Try.ntmps9
    go_wp2_with (first
      | (go_at_call_of 13 (Value.int IntKind.u8 66); refine (expect_hit w.heap.size s 0 66 _ h0 (Nat.zero_le _) hs' hB).mono ?_; rintro e w1 ⟨rfl, h1, b1⟩)
      | (go_at_call_of 14 (Value.int IntKind.u8 49); refine (rising_any w.heap.size s 1 49 _ h1 (by omega) hs' (by omega) (by omega)).mono ?_; rintro e w2 ⟨rfl, h2, b2⟩)
      | (go_at_call_of 13 (Value.int IntKind.u8 47); refine (expect_hit w.heap.size s _ 47 _ h2 hr1.2 hs' hS).mono ?_; rintro e w3 ⟨rfl, h3, b3⟩)
      | (go_at_call_of 13 (Value.int IntKind.u8 83); refine (expect_hit w.heap.size s _ 83 _ h3 (by omega) hs' hT).mono ?_; rintro e w4 ⟨rfl, h4, b4⟩)
      | (go_at_call_of 14 (Value.int IntKind.u8 48); refine (rising_any w.heap.size s _ 48 _ h4 (by omega) hs' (by omega) (by omega)).mono ?_; rintro e w5 ⟨rfl, h5, b5⟩)
      | (go_at_call 15; refine (expectEnd_hit w.heap.size s _ _ h5 hE' hs').mono ?_; rintro e w6 ⟨rfl, b6⟩))
    go_end0
    exact ⟨by simp [readOut, ruleR, hs, hB, hS, hT, hE], (((((hbl.trans b1).trans b2).trans b3).trans b4).trans b5).trans b6⟩
end Go.Proofs.Ytggijopbcannfaa
