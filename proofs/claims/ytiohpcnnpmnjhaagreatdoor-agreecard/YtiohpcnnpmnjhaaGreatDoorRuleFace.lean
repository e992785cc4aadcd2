import Derived.Test.YtiohpcnnpmnjhaaGreatDoorRulM
import Derived.Test.YtiohpcnnpmnjhaaGreatDoorBotM
import Derived.Shelf.Abstract
namespace Go.Proofs.YtiohpcnnpmnjhaaGreatDoor
open Go.RowKit Go.Shelf
set_option linter.unusedVariables false

/-- What Rule's work leaves. -/
def RuleR (s : ByteArray) (w : World) (r : Option (Int × Int)) (w' : World) : Prop :=
  (match ruleR s with
    | .inl (k, i) => r = some (k, (i : Int))
    | .inr _ => r = none) ∧ Below w.heap.size w w'

set_option maxHeartbeats 800000 in
theorem ruleWork_any (bt : Nat) (s : ByteArray) (w : World) (hm : s.size ≤ maxLen) (hc : w.heap[bt]? = some (.cells #[.string s] 9 (0, 0))) :
    Calls Tryz.prog 61 #[.pointer (some ⟨bt, 0, none⟩)] w fun e w' => Below w.heap.size w w' ∧ ((e = .returned (.tuple #[]) ∧ RuleR s w none w') ∨ ∃ k i, e = .panicked (refusal k i) ∧ RuleR s w (some (k, i)) w') := by
  have hR := readRule_any s w hm
  have q0 := topc hc
  cases hr : ruleR s with
  | inl x =>
    obtain ⟨k, i⟩ := x
    go_enter Tryz.func61, Tryz.ntmps61
    go_wp2_with (go_at_call 62; refine hR.mono ?_; intro e w' ho; unfold LawOut at ho; rw [hr] at ho; obtain ⟨hb, he⟩ := ho; simp only at he; subst he)
    exact ⟨rfl, hb, .inr ⟨k, i, rfl, by rw [RuleR, hr]; exact ⟨rfl, hb⟩⟩⟩
  | inr x =>
    obtain ⟨f, g⟩ := x
    go_enter Tryz.func61, Tryz.ntmps61
    go_wp2_with (go_at_call 62; refine hR.mono ?_; intro e w' ho; unfold LawOut at ho; rw [hr] at ho; obtain ⟨hb, he⟩ := ho; simp only at he; subst he)
    go_end0
    exact ⟨hb, .inl ⟨rfl, by rw [RuleR, hr]; exact ⟨rfl, hb⟩⟩⟩

/-- Rule's answer. -/
def ruleT (s : ByteArray) : Int × Int := match ruleR s with
  | .inl (k, i) => (k, (i : Int))
  | .inr _ => (0, 0)

set_option maxHeartbeats 800000 in
/-- Rule, whole. -/
theorem rule_any (s : ByteArray) (w : World) (hm : s.size ≤ maxLen) :
    Calls Tryz.prog 35 #[.string s] w fun e w' => e = .returned (.tuple #[.int .i64 (ruleT s).1, .int .i64 (ruleT s).2]) ∧ Below w.heap.size w w' := by
  have hmf : ∀ (fn : Fn) (first cap : Array Value) (w : World), (Instr.makeFunc fn first cap).run Tryz.prog w = .ok (.func fn first cap) w := fun _ _ _ _ => rfl
  obtain ⟨w2, hw2⟩ : ∃ w2, w.alloc (.cells #[.string s] 9) = w2 := ⟨_, rfl⟩
  have s2 : w2.heap.size = w.heap.size + 1 := by rw [← hw2]; simp
  have b2 : Below w.heap.size w w2 := by rw [← hw2]; exact (Below.refl _ _).alloc (Nat.le_refl _) _
  have t0 : w2.heap[w.heap.size]? = some (.cells #[.string s] 9 (0, 0)) := by rw [← hw2]; exact blk_new w _
  obtain ⟨w4, hw4⟩ : ∃ w4, (w2.alloc (.cells #[.int .i64 0] 22)).alloc (.cells #[.int .i64 0] 3) = w4 := ⟨_, rfl⟩
  have s4 : w4.heap.size = w2.heap.size + 2 := by rw [← hw4]; simp
  have b4 : Below w2.heap.size w2 w4 := by rw [← hw4]; exact ((Below.refl _ _).alloc (Nat.le_refl _) _).alloc (by simp) _
  have u0 : w4.heap[w2.heap.size]? = some (.cells #[.int .i64 0] 22 (0, 0)) := by rw [← hw4]; exact blk_old (blk_new _ _) _
  have u1 : w4.heap[w2.heap.size + 1]? = some (.cells #[.int .i64 0] 3 (0, 0)) := by
    have := blk_new (w2.alloc (.cells #[.int .i64 0] 22)) (.cells #[.int .i64 0] 3)
    rw [← hw4]; simpa using this
  have hW := ruleWork_any w.heap.size s w4 hm ((b4.block _ (blk_lt t0)).trans t0)
  have hA := attempt_gen 61 #[.pointer (some ⟨w.heap.size, 0, none⟩)] w2 (enters_of Tryz.func61 (by kernel_rfl) rfl)
    (fun r w' => RuleR s w4 r w')
    (by
      rw [hw4]
      exact hW.mono fun e w' ⟨hb, ho⟩ => ⟨⟨(hb.block _ (blk_lt u0)).trans u0, (hb.block _ (blk_lt u1)).trans u1⟩, ho⟩)
  clear hW t0 u0 u1
  subst hw2
  go_enter Tryz.func35, Tryz.ntmps35
  go_wp2_with (go_at_call 38; refine hA.mono ?_; rintro e w5 ⟨r, rfl, w6, ⟨hr, hb6⟩, hb5⟩)
  have hT : (r.getD (0, 0)).1 = (ruleT s).1 ∧ (r.getD (0, 0)).2 = (ruleT s).2 := by
    unfold ruleT
    split at hr
    · obtain rfl := hr; exact ⟨rfl, rfl⟩
    · obtain rfl := hr; exact ⟨rfl, rfl⟩
  rw [← hT.1, ← hT.2]
  exact bodyPost_ret (v := .tuple #[.int .i64 (r.getD (0, 0)).1, .int .i64 (r.getD (0, 0)).2]) (by simp [results, Tryz.results35, go_sem]) rfl ⟨rfl, (b2.trans (b4.mono (by omega))).trans ((hb6.mono (by omega)).trans (hb5.mono (by omega)))⟩

end Go.Proofs.YtiohpcnnpmnjhaaGreatDoor
