import Derived.Test.YtiohpcnnpmnjhaaMoveSpec
import Derived.Test.YtiohpcnnpmnjhaaMovedM
import Derived.Test.YtiohpcnnpmnjhaaCompare
import Derived.BigRegionIn
namespace Go.Proofs.Ytiohpcnnpmnjhaa
open Go.RowKit Go.Shelf
set_option linter.unusedVariables false
attribute [local go_sem] Oper.semAt_some

set_option maxHeartbeats 800000 in
theorem moveTo_len (a b : Option Addr) (n m c d : Nat) (w : World) (h : ¬ n = m) :
    Calls Try.prog 51 #[.slice a n c, .slice b m d] w fun e w' => e = .returned (.tuple #[.agg #[.int .i64 0, .int .i64 0], .bool false]) ∧ Below w.heap.size w w' := by
  have hz : ((n : Int) == (m : Int)) = false := by
    have : ¬ (n : Int) = (m : Int) := by omega
    simpa using this
  have hz' : ((n : Int) != (m : Int)) = true := by simp [bne, hz]
  go_enter Try.func51, Try.ntmps51
  go_wp2
  exact bodyPost_ret (v := .tuple #[.agg #[.int .i64 0, .int .i64 0], .bool false]) (by simp [results, Try.results51, go_sem]) rfl ⟨rfl, (((Below.refl _ _).alloc (Nat.le_refl _) _).alloc (by simp) _).alloc (by simp only [World.size_alloc]; omega) _⟩

set_option maxHeartbeats 800000 in
theorem moveTo_nil (a b : Option Addr) (c d : Nat) (w : World) :
    Calls Try.prog 51 #[.slice a 0 c, .slice b 0 d] w fun e w' => e = .returned (.tuple #[.agg #[.int .i64 0, .int .i64 0], .bool true]) ∧ Below w.heap.size w w' := by
  go_enter Try.func51, Try.ntmps51
  go_wp2
  exact bodyPost_ret (v := .tuple #[.agg #[.int .i64 0, .int .i64 0], .bool true]) (by simp [results, Try.results51, go_sem]) rfl ⟨rfl, (((Below.refl _ _).alloc (Nat.le_refl _) _).alloc (by simp) _).alloc (by simp only [World.size_alloc]; omega) _⟩

end Go.Proofs.Ytiohpcnnpmnjhaa
