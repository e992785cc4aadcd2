import Derived.Test.YtiohpcnnpmnjhaaRows
import Derived.Test.YtiohpcnnpmnjhaaRuleFace
import Derived.Test.YtiohpcnnpmnjhaaRuleRef2
import Derived.ProofKit
import Derived.OpenShut
import Derived.ShutString
namespace Go.Proofs.Ytiohpcnnpmnjhaa
open Go.RowKit
set_option linter.unusedVariables false

theorem refRule_any (s : ByteArray) (w : World) (hm : s.size ≤ maxLen) : Calls Try.prog 6 #[.string s] w (RefLaw s w) := by
  unfold maxLen at hm
  by_cases hs : 24 < s.size
  · exact refRule_long s w hm hs (by show _ = _; simp [ruleR, hs])
  have hs' : s.size ≤ 24 := by omega
  by_cases h0 : s.size = 0
  · have hp : pk s 0 = 0 := pk_out (by omega)
    exact refRule_none s w hs' h0 (by show _ = _; simp [ruleR, hs, hp])
  have h0' : 0 < s.size := by omega
  have hz : ((s.size : Int) == 0) = false := by have : ¬ (s.size : Int) = 0 := by omega
                                                simpa using this
  have hp0 := pk_in h0'
  by_cases hB : pk s 0 = 66
  rotate_left
  · exact refRule_B s w hs' h0' hz (by rw [← hp0]; simpa using hB) (by show _ = _; simp [ruleR, hs, hB])
  have hB' : ((s[0].toNat : Int) != 66) = false := by rw [← hp0]; simpa using hB
  have hr1 := riseEnd_le s 1 49 (by omega)
  have hD1 := fun w => digits_any s 1 49 w (by omega) hs' (by omega) (by omega)
  obtain ⟨f1, hf1⟩ : ∃ f1, riseTab s 1 49 = f1 := ⟨_, rfl⟩
  obtain ⟨i, hi⟩ : ∃ i, riseEnd s 1 49 = i := ⟨_, rfl⟩
  rw [hi] at hr1
  simp only [hi, hf1] at hD1
  have HR : ruleR s = if pk s i = 47 then (if pk s (i + 1) = 83 then (if riseEnd s (i + 2) 48 < s.size then .inl (3, riseEnd s (i + 2) 48) else .inr (f1, riseTab s (i + 2) 48)) else .inl (3, i + 1)) else .inl (3, i) := by
    rw [ruleR, if_neg hs, if_pos hB, hf1, hi]
  by_cases hl : i < s.size
  rotate_left
  · have hp : pk s i = 0 := pk_out hl
    exact refRule_S1 s w hs' h0' hz hB' f1 i hr1.2 hD1 (by omega) (by show _ = _; rw [HR, if_neg (by omega)])
  have hp1 := pk_in hl
  by_cases hS : pk s i = 47
  rotate_left
  · exact refRule_S2 s w hs' h0' hz hB' f1 i hr1.2 hD1 hl (by rw [← hp1]; simpa using hS) (by show _ = _; rw [HR, if_neg hS])
  have hS' : ((s[i].toNat : Int) != 47) = false := by rw [← hp1]; simpa using hS
  rw [if_pos hS] at HR
  by_cases hl2 : i + 1 < s.size
  rotate_left
  · have hp : pk s (i + 1) = 0 := pk_out hl2
    exact refRule_T1 s w hs' h0' hz hB' f1 i hr1.2 hD1 hl hS' (by omega) (by show _ = _; rw [HR, if_neg (by omega)])
  have hp2 := pk_in hl2
  by_cases hT : pk s (i + 1) = 83
  rotate_left
  · exact refRule_T2 s w hs' h0' hz hB' f1 i hr1.2 hD1 hl hS' hl2 (by rw [← hp2]; simpa using hT) (by show _ = _; rw [HR, if_neg hT])
  have hT' : ((s[i + 1].toNat : Int) != 83) = false := by rw [← hp2]; simpa using hT
  rw [if_pos hT] at HR
  have hr2 := riseEnd_le s (i + 2) 48 (by omega)
  have hD2 := fun w => digits_any s (i + 2) 48 w (by omega) hs' (by omega) (by omega)
  obtain ⟨f2, hf2⟩ : ∃ f2, riseTab s (i + 2) 48 = f2 := ⟨_, rfl⟩
  obtain ⟨j, hj⟩ : ∃ j, riseEnd s (i + 2) 48 = j := ⟨_, rfl⟩
  rw [hj] at hr2
  rw [hj, hf2] at HR
  simp only [hj, hf2] at hD2
  have hD2' : ∀ w, Calls Try.prog 14 #[.string s, .int .i64 ((i : Int) + 2), .int .u8 48] w fun e w' => e = .returned (.tuple #[.agg (nine f2), .int .i64 (j : Int)]) ∧ Below w.heap.size w w' := hD2
  by_cases hl3 : j < s.size
  · exact refRule_E s w hs' h0' hz hB' f1 i hr1.2 hD1 hl hS' hl2 hT' f2 j hr2.2 hD2' hl3 (by show _ = _; rw [HR, if_pos hl3])
  · exact refRule_OK s w hs' h0' hz hB' f1 i hr1.2 hD1 hl hS' hl2 hT' f2 j hr2.2 hD2' (by omega) (by show _ = _; rw [HR, if_neg hl3])

theorem num_any (k : Int) (w : World) : Calls Try.prog 7 #[.int .i64 k] w fun e w' => e = .returned (.int .i64 k) ∧ w' = w := by
  go_enter Try.func7, Try.ntmps7
  go_wp2
  go_ret
  exact ⟨rfl, rfl⟩

theorem z18_new (w : World) : (w.alloc (.cells Z18 27)).heap[w.heap.size]? = some (.cells (twoN noD noD) 27 (0, 0)) := blk_new w _

set_option maxHeartbeats 800000 in
theorem rules_walk (s : ByteArray) (hm : s.size ≤ maxLen) (w : World) :
    Calls Try.prog 3 #[.string s] w fun e w' => e = .returned (.bool true) ∧ Below w.heap.size w w' := by
  obtain ⟨k, i, hT, hR⟩ : ∃ k i, ruleT s = (k, i) ∧ ∀ w, Calls Try.prog 6 #[.string s] w fun e w' => (∃ f g, e = .returned (.tuple #[.agg (twoN f g), .int .i64 k, .int .i64 i])) ∧ Below w.heap.size w w' := by
    cases hr : ruleR s with
    | inl x =>
      obtain ⟨k, i⟩ := x
      refine ⟨k, (i : Int), by rw [ruleT, hr], fun w => (refRule_any s w hm).mono fun e w' h => ?_⟩
      unfold RefLaw at h; rw [hr] at h
      exact ⟨⟨_, _, h.2⟩, h.1⟩
    | inr x =>
      obtain ⟨f, g⟩ := x
      refine ⟨0, 0, by rw [ruleT, hr], fun w => (refRule_any s w hm).mono fun e w' h => ?_⟩
      unfold RefLaw at h; rw [hr] at h
      exact ⟨⟨_, _, h.2⟩, h.1⟩
  have c4 := rule_any s w hm
  rw [hT] at c4
  simp only at c4
  clear hT
  go_enter Try.func3, Try.ntmps3
  go_wp2_with (first
    | (go_at_call 5; refine c4.mono ?_; rintro e w1 ⟨rfl, b1⟩)
    | (go_at_call 6; refine (hR _).mono ?_; rintro e w2 ⟨⟨f, g, rfl⟩, b2⟩)
    | (go_at_call 7; refine (num_any k _).mono ?_; rintro e w3 ⟨rfl, rfl⟩)
    | (refine wpList_store_row rfl 27 (Operand.tmp 5) _ rfl w2.heap.size (twoN f g) rfl rfl 27 (twoN noD noD) (z18_new w2) info27 rfl (twoN_one _ _) ?_))
  refine bodyPost_ret (v := .bool true) (by simp [results, Try.results3]) rfl ⟨rfl, ?_⟩
  have b3 := (b1.trans (b2.mono b1.size)).alloc (Nat.le_trans b1.size b2.size) (.cells Z18 27)
  exact below_row b3 (Nat.le_trans b1.size b2.size) _

end Go.Proofs.Ytiohpcnnpmnjhaa

namespace Go.Proofs.Ytiohpcnnpmnjhaa
open Go.ChangeShapes Go.WideShapes Go.ChangeAt Go.RowKit
open Go.ChangeMaps (open_string shut_string)

theorem own : ownKnob Try.prog.godebug = none := by kernel_rfl

set_option maxRecDepth 100000 in
theorem lifted (os : Os) (started : os.Started) (H : Type) (enc : TypeId × Value → H) :
    ReturnsInHanded {} Try.checked os 3 .any (Rows.rulesSpec.pre6 enc Try.prog Try.f3 Rows.rulesRow.domain false) (Rows.rulesSpec.post enc Try.prog Try.f3 false true false false) := by
  refine returnsInHanded_of_change (C := Try.checked) own started (by kernel_rfl) Try.func3
    (ChangeSpec.witness6 (enc := enc) (C := Try.checked) false ⟨#[], #[.string ByteArray.empty], []⟩ 8 (by kernel_rfl) (by kernel_rfl) (by kernel_rfl) (by kernel_rfl)) ?_
  intro W base args ds gs before hval0 hW hcnd _
  have hval : ∀ (j : Nat) t v, Try.f3.params[j]? = some t → args[j]? = some v → Value.okWide Try.prog W .any base t v := hval0
  have hW' := hW
  obtain ⟨p, q, hA0, hV, rfl, hfz, hnd⟩ := hW
  have hA : DataW.TrodAll enc Try.prog W 0 (fun _ => true) true Try.f3.params.toList args.toList ds p := hA0
  rw [Try.params3] at hA hval
  obtain ⟨v0, vs0, d0, ds0, p0, q0, hargs, rfl, rfl, h0, r0⟩ := trodAll_cons hA
  obtain ⟨rfl, rfl, rfl⟩ := trodAll_nil r0
  obtain rfl : args = #[v0] := by cases args; simp_all
  obtain ⟨rfl, rfl⟩ := trodVars_none hV
  obtain ⟨a0, rfl, rfl, rfl, w0⟩ := open_string Try.underlying9 (hval 0 9 v0 rfl rfl) h0
  clear hA0 hval0
  simp only [List.append_nil] at hW'
  refine (rules_walk a0 w0 W).mono fun e W' ⟨he, bel⟩ => ?_
  subst he
  exact ⟨_, rfl, _, _, _, [], _, [], hW', trodAll_mk1 (shut_bool Try.underlying4 _), (trodAll_cons_mk (shut_string Try.underlying9 w0) trodAll_mk0), rfl, bel.frame _, fun h => by cases h⟩

/-- The statement. -/
theorem rules_holds : Rows.RulesSaid :=
  OpenClaim.holds_of_wide 3 Try.f3 rfl rfl rfl rfl rfl rfl rfl ⟨rfl, rfl, rfl, rfl, rfl⟩ rfl rfl rfl rfl rfl (by kernel_rfl) Try.func3 (by kernel_rfl)
    (of_decide_eq_true (by kernel_rfl)) (by unfold Func.isWrapper; first | (rw [if_pos (by decide +kernel)]; kernel_rfl) | (rw [if_neg (by decide +kernel)]; exact ⟨rfl, rfl⟩))
    (fun os started H enc _ => lifted os started H enc)
#print axioms rules_holds

end Go.Proofs.Ytiohpcnnpmnjhaa
