import Derived.Test.YtiohpcnnpmnjhaaRuleRef2
namespace Go.Proofs.Ytiohpcnnpmnjhaa
open Go.RowKit
set_option linter.unusedVariables false

theorem refRule_any (s : ByteArray) (w : World) (hm : s.size ≤ maxLen) : Calls Try.prog 6 #[.string s] w (RefLaw s w) := by
  unfold maxLen at hm
  by_cases hs : 24 < s.size
  · exact refRule_long s w hm hs (by show _ = _; simp [ruleR, hs])
  have hs' : s.size ≤ 24 := by omega
  by_cases h0 : s.size = 0
  · have hp : pk s 0 = 0 := pk_out (by omega)
    exact refRule_none s w hs' h0 (by show _ = _; simp [ruleR, hs, hp])
  have h0' : 0 < s.size := by omega
  have hz : ((s.size : Int) == 0) = false := by have : ¬ (s.size : Int) = 0 := by omega
                                                simpa using this
  have hp0 := pk_in h0'
  by_cases hB : pk s 0 = 66
  rotate_left
  · exact refRule_B s w hs' h0' hz (by rw [← hp0]; simpa using hB) (by show _ = _; simp [ruleR, hs, hB])
  have hB' : ((s[0].toNat : Int) != 66) = false := by rw [← hp0]; simpa using hB
  have hr1 := riseEnd_le s 1 49 (by omega)
  have hD1 := fun w => digits_any s 1 49 w (by omega) hs' (by omega) (by omega)
  obtain ⟨f1, hf1⟩ : ∃ f1, riseTab s 1 49 = f1 := ⟨_, rfl⟩
  obtain ⟨i, hi⟩ : ∃ i, riseEnd s 1 49 = i := ⟨_, rfl⟩
  rw [hi] at hr1
  simp only [hi, hf1] at hD1
  have HR : ruleR s = if pk s i = 47 then (if pk s (i + 1) = 83 then (if riseEnd s (i + 2) 48 < s.size then .inl (3, riseEnd s (i + 2) 48) else .inr (f1, riseTab s (i + 2) 48)) else .inl (3, i + 1)) else .inl (3, i) := by
    rw [ruleR, if_neg hs, if_pos hB, hf1, hi]
  by_cases hl : i < s.size
  rotate_left
  · have hp : pk s i = 0 := pk_out hl
    exact refRule_S1 s w hs' h0' hz hB' f1 i hr1.2 hD1 (by omega) (by show _ = _; rw [HR, if_neg (by omega)])
  have hp1 := pk_in hl
  by_cases hS : pk s i = 47
  rotate_left
  · exact refRule_S2 s w hs' h0' hz hB' f1 i hr1.2 hD1 hl (by rw [← hp1]; simpa using hS) (by show _ = _; rw [HR, if_neg hS])
  have hS' : ((s[i].toNat : Int) != 47) = false := by rw [← hp1]; simpa using hS
  rw [if_pos hS] at HR
  by_cases hl2 : i + 1 < s.size
  rotate_left
  · have hp : pk s (i + 1) = 0 := pk_out hl2
    exact refRule_T1 s w hs' h0' hz hB' f1 i hr1.2 hD1 hl hS' (by omega) (by show _ = _; rw [HR, if_neg (by omega)])
  have hp2 := pk_in hl2
  by_cases hT : pk s (i + 1) = 83
  rotate_left
  · exact refRule_T2 s w hs' h0' hz hB' f1 i hr1.2 hD1 hl hS' hl2 (by rw [← hp2]; simpa using hT) (by show _ = _; rw [HR, if_neg hT])
  have hT' : ((s[i + 1].toNat : Int) != 83) = false := by rw [← hp2]; simpa using hT
  rw [if_pos hT] at HR
  have hr2 := riseEnd_le s (i + 2) 48 (by omega)
  have hD2 := fun w => digits_any s (i + 2) 48 w (by omega) hs' (by omega) (by omega)
  obtain ⟨f2, hf2⟩ : ∃ f2, riseTab s (i + 2) 48 = f2 := ⟨_, rfl⟩
  obtain ⟨j, hj⟩ : ∃ j, riseEnd s (i + 2) 48 = j := ⟨_, rfl⟩
  rw [hj] at hr2
  rw [hj, hf2] at HR
  simp only [hj, hf2] at hD2
  have hD2' : ∀ w, Calls Try.prog 14 #[.string s, .int .i64 ((i : Int) + 2), .int .u8 48] w fun e w' => e = .returned (.tuple #[.agg (nine f2), .int .i64 (j : Int)]) ∧ Below w.heap.size w w' := hD2
  by_cases hl3 : j < s.size
  · exact refRule_E s w hs' h0' hz hB' f1 i hr1.2 hD1 hl hS' hl2 hT' f2 j hr2.2 hD2' hl3 (by show _ = _; rw [HR, if_pos hl3])
  · exact refRule_OK s w hs' h0' hz hB' f1 i hr1.2 hD1 hl hS' hl2 hT' f2 j hr2.2 hD2' (by omega) (by show _ = _; rw [HR, if_neg hl3])

theorem num_any (k : Int) (w : World) : Calls Try.prog 7 #[.int .i64 k] w fun e w' => e = .returned (.int .i64 k) ∧ w' = w := by
  go_enter Try.func7, Try.ntmps7
  go_wp2
  go_ret
  exact ⟨rfl, rfl⟩

theorem z18_new (w : World) : (w.alloc (.cells Z18 27)).heap[w.heap.size]? = some (.cells (twoN noD noD) 27 (0, 0)) := blk_new w _

end Go.Proofs.Ytiohpcnnpmnjhaa
