import Derived.Test.YtggijopbcannfaaRefRule
import Derived.Test.YtggijopbcannfaaFace
import Derived.ProofKit
import Derived.OpenShut
import Derived.ShutString
namespace Go.Proofs.Ytggijopbcannfaa
set_option linter.unusedVariables false
open Go.RowKit

theorem refRule_any (s : ByteArray) (w : World) (hm : s.size ≤ maxLen) :
    Calls Try.prog 5 #[.string s] w (RefOut w ((ruleR s).getD (0, 0)).1 ((ruleR s).getD (0, 0)).2) := by
  unfold maxLen at hm
  by_cases hs : 24 < s.size
  · simpa [ruleR, hs] using refRule_long s w hm hs
  have hs' : s.size ≤ 24 := by omega
  by_cases h0 : s.size = 0
  · have hp : pk s 0 = 0 := pk_out (by omega)
    simpa [ruleR, hs, hp] using refRule_none s w hs' h0
  have h0' : 0 < s.size := by omega
  have hz : ((s.size : Int) == 0) = false := by have : ¬ (s.size : Int) = 0 := by omega
                                                simpa using this
  have hp0 := pk_in h0'
  by_cases hB : pk s 0 = 66
  rotate_left
  · simpa [ruleR, hs, hB] using refRule_B s w hs' h0' hz (by rw [← hp0]; simpa using hB)
  have hB' : ((s[0].toNat : Int) != 66) = false := by rw [← hp0]; simpa using hB
  obtain ⟨i, hi⟩ : ∃ i, riseEnd s 1 49 = i := ⟨_, rfl⟩
  have hr1 := riseEnd_le s 1 49 (by omega)
  rw [hi] at hr1
  by_cases hl : i < s.size
  rotate_left
  · have hp : pk s i = 0 := pk_out hl
    simpa [ruleR, hs, hB, hi, hp] using refRule_S1 s w hs' h0' hz hB' i hi (by omega) hr1.2
  have hp1 := pk_in hl
  by_cases hS : pk s i = 47
  rotate_left
  · simpa [ruleR, hs, hB, hi, hS] using refRule_S2 s w hs' h0' hz hB' i hi hl (by rw [← hp1]; simpa using hS)
  have hS' : ((s[i].toNat : Int) != 47) = false := by rw [← hp1]; simpa using hS
  by_cases hl2 : i + 1 < s.size
  rotate_left
  · have hp : pk s (i + 1) = 0 := pk_out hl2
    simpa [ruleR, hs, hB, hi, hS, hp] using refRule_T1 s w hs' h0' hz hB' i hi hl hS' (by omega)
  have hp2 := pk_in hl2
  by_cases hT : pk s (i + 1) = 83
  rotate_left
  · simpa [ruleR, hs, hB, hi, hS, hT] using refRule_T2 s w hs' h0' hz hB' i hi hl hS' hl2 (by rw [← hp2]; simpa using hT)
  have hT' : ((s[i + 1].toNat : Int) != 83) = false := by rw [← hp2]; simpa using hT
  obtain ⟨j, hj⟩ : ∃ j, riseEnd s (i + 2) 48 = j := ⟨_, rfl⟩
  have hr2 := riseEnd_le s (i + 2) 48 (by omega)
  rw [hj] at hr2
  by_cases hl3 : j < s.size
  · simpa [ruleR, hs, hB, hi, hS, hT, hj, hl3] using refRule_E s w hs' h0' hz hB' i hi hl hS' hl2 hT' j hj hl3
  · simpa [ruleR, hs, hB, hi, hS, hT, hj, hl3] using refRule_OK s w hs' h0' hz hB' i hi hl hS' hl2 hT' j hj (by omega) hr2.2

theorem z18_new (w : World) : HasRow (w.alloc (.cells Z18 27)) w.heap.size 18 := HasRow.new w Z18 27 18 rfl z18_one

set_option maxHeartbeats 400000 in
theorem rules_walk (s : ByteArray) (hm : s.size ≤ maxLen) (w : World) :
    Calls Try.prog 3 #[.string s] w fun e w' => e = .returned (.bool true) ∧ Below w.heap.size w w' := by
  obtain ⟨k, hk⟩ : ∃ k, ((ruleR s).getD (0, 0)).1 = k := ⟨_, rfl⟩
  obtain ⟨i, hi⟩ : ∃ i, ((ruleR s).getD (0, 0)).2 = i := ⟨_, rfl⟩
  have c4 := rule_any s w hm
  have c5 := fun w => refRule_any s w hm
  rw [hk, hi] at c4
  simp only [hk, hi] at c5
  go_enter Try.func3, Try.ntmps3
  go_wp2_with (first
    | (go_at_call 4; refine c4.mono ?_; rintro e w1 ⟨rfl, b1⟩)
    | (go_at_call 5; refine (c5 _).mono ?_; rintro e w2 ⟨L, rfl, hL, hL1, b2⟩)
    | (go_at_call 6; go_in)
    | (refine wpList_store_has (P := Try.prog) rfl 27 (Operand.tmp 5) _ rfl w2.heap.size 0 18 18 L rfl rfl (z18_new w2) hL (by omega) info27 hL1 ?_; intro w3 r3 o3))
  refine bodyPost_ret (v := .bool true) (by simp [results, Try.results3]) rfl ⟨rfl, ?_⟩
  exact ((b1.trans (b2.mono b1.size)).alloc (Nat.le_trans b1.size b2.size) _).trans (o3.below (Nat.le_trans b1.size b2.size))

end Go.Proofs.Ytggijopbcannfaa

namespace Go.Proofs.Ytggijopbcannfaa
open Go.ChangeShapes Go.WideShapes Go.ChangeAt Go.RowKit
open Go.ChangeMaps (open_string shut_string)

theorem own : ownKnob Try.prog.godebug = none := by kernel_rfl

/-! ### THE ROW's STEP: WRITTEN OUT: LEAVE IT -/
set_option maxRecDepth 100000 in
theorem lifted (os : Os) (started : os.Started) (H : Type) (enc : TypeId × Value → H) :
    ReturnsInHanded {} Try.checked os 3 .any (Rows.rulesSpec.pre6 enc Try.prog Try.f3 Rows.rulesRow.domain false) (Rows.rulesSpec.post enc Try.prog Try.f3 false true false false) := by
  refine returnsInHanded_of_change (C := Try.checked) own started (by kernel_rfl) Try.func3
    (ChangeSpec.witness6 (enc := enc) (C := Try.checked) false ⟨#[], #[.string ByteArray.empty], []⟩ 8 (by kernel_rfl) (by kernel_rfl) (by kernel_rfl) (by kernel_rfl)) ?_
  intro W base args ds gs before hval0 hW hcnd _
  have hval : ∀ (j : Nat) t v, Try.f3.params[j]? = some t → args[j]? = some v → Value.okWide Try.prog W .any base t v := hval0
  have hW' := hW
  obtain ⟨p, q, hA0, hV, rfl, hfz, hnd⟩ := hW
  have hA : DataW.TrodAll enc Try.prog W 0 (fun _ => true) true Try.f3.params.toList args.toList ds p := hA0
  rw [Try.params3] at hA hval
  obtain ⟨v0, vs0, d0, ds0, p0, q0, hargs, rfl, rfl, h0, r0⟩ := trodAll_cons hA
  obtain ⟨rfl, rfl, rfl⟩ := trodAll_nil r0
  obtain rfl : args = #[v0] := by cases args; simp_all
  obtain ⟨rfl, rfl⟩ := trodVars_none hV
  obtain ⟨a0, rfl, rfl, rfl, w0⟩ := open_string Try.underlying9 (hval 0 9 v0 rfl rfl) h0
  clear hA0 hval0
  simp only [List.append_nil] at hW'
  refine (rules_walk a0 w0 W).mono fun e W' ⟨he, bel⟩ => ?_
  subst he
  exact ⟨_, rfl, _, _, _, [], _, [], hW', trodAll_mk1 (shut_bool Try.underlying4 _), (trodAll_cons_mk (shut_string Try.underlying9 w0) trodAll_mk0), rfl, bel.frame _, fun h => by cases h⟩

theorem over : Rows.rulesRow.holds Try.pinned (OpenSpec.ofChange Rows.rulesSpec) :=
  OpenClaim.holds_of_wide 3 Try.f3 rfl rfl rfl rfl rfl rfl rfl ⟨rfl, rfl, rfl, rfl, rfl⟩ rfl rfl rfl rfl rfl (by kernel_rfl) Try.func3 (by kernel_rfl)
    (of_decide_eq_true (by kernel_rfl)) (by unfold Func.isWrapper; first | (rw [if_pos (by decide +kernel)]; kernel_rfl) | (rw [if_neg (by decide +kernel)]; exact ⟨rfl, rfl⟩))
    (fun os started H enc _ => lifted os started H enc)

/-- ████ THE STATEMENT ████ -/
theorem rules_holds : Rows.RulesSaid :=
  over
#print axioms rules_holds

end Go.Proofs.Ytggijopbcannfaa
