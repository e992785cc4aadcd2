import Derived.Test.YtiohpcnnpmnjhaaReader
import Derived.Defers
import Derived.Recover
import Derived.RegionTactic
import Derived.ChangeAlike
namespace Go.Proofs.Ytiohpcnnpmnjhaa
set_option linter.unusedVariables false
open Go.RowKit

set_option maxHeartbeats 400000 in
theorem catch_idle (p q : Addr) (w : World) :
    CallsD Try.prog 19 #[.pointer (some p), .pointer (some q)] .returning w fun e u' w' => e = .returned (.tuple #[]) ∧ u' = .returning ∧ w' = w := by
  have hnil : ∀ w : World, (binOp BinOp.eql 20 .nilIface .nilIface).run Try.prog w = .ok (.bool true) w := fun _ => by kernel_rfl
  refine callsD_of_wpS Try.func19 rfl fun c₀ cs hu => ?_
  apply wpS_seq
  apply wpS_region
  simp [wpOpsS, go_sem, recoverD, hu, Try.ntmps19, Exit.thenS]
  refine wpS_of_wp ?_
  go_wp2
  cases c₀
  simp_all [bodyPostS, results, Try.results19]

theorem tmps11_lit (x y : Value) : #[x, y] ++ Array.replicate (15 - #[x, y].size) undef = #[x, y, undef, undef, undef, undef, undef, undef, undef, undef, undef, undef, undef, undef, undef] := rfl

set_option maxHeartbeats 400000 in
/-- The deferred closure of a frame that gives up: the two named results are laid. -/
theorem catch_refusal (b : Nat) (k i x y : Int) (w : World) (hb : b + 1 < w.heap.size) (hc : w.cell? ⟨b, 0, none⟩ = some (.int .i64 x)) (hz : w.frozen? ⟨b, 0, none⟩ = false) (hc' : w.cell? ⟨b + 1, 0, none⟩ = some (.int .i64 y)) (hz' : w.frozen? ⟨b + 1, 0, none⟩ = false) :
    CallsD Try.prog 19 #[.pointer (some ⟨b, 0, none⟩), .pointer (some ⟨b + 1, 0, none⟩)] (.panicking (refusal k i)) w fun e u' w' =>
      e = .returned (.tuple #[]) ∧ u' = .panicking [{ v := .iface 58 (.agg #[.int .i64 k, .int .i64 i]), recovered := true }] ∧ w'.cell? ⟨b, 0, none⟩ = some (.int .i64 k) ∧ w'.cell? ⟨b + 1, 0, none⟩ = some (.int .i64 i) ∧ Below b w w' := by
  have hne : ∀ (v : Value) (w : World), (binOp BinOp.eql 20 (.iface 58 v) .nilIface).run Try.prog w = .ok (.bool false) w := fun _ _ => by kernel_rfl
  have hta : ∀ (v : Value) (w : World), (Instr.typeAssert (.iface 58 v) 20 58 true).run Try.prog w = .ok (.tuple #[v, .bool true]) w := fun _ _ => by kernel_rfl
  have hb0 : b < w.heap.size := by omega
  have hb1 : (b == w.heap.size) = false := by simp; omega
  have hb2 : (b + 1 == w.heap.size) = false := by simp; omega
  refine callsD_of_wpS Try.func19 rfl fun c₀ cs hu => ?_
  rw [Try.ntmps19, tmps11_lit]
  apply wpS_seq
  apply wpS_region
  simp [wpOpsS, go_sem, recoverD, hu, Exit.thenS, refusal]
  refine wpS_of_wp ?_
  go_wp2
  go_region
  have hw1 : (w.setCell ⟨b, 0, none⟩ (.int .i64 k)).cell? ⟨b + 1, 0, none⟩ = some (.int .i64 y) := by rw [World.cell?_setCell_other _ _ _ _ (by simp)]; exact hc'
  have e0 : ((w.setCell ⟨b, 0, none⟩ (.int .i64 k)).setCell ⟨b + 1, 0, none⟩ (.int .i64 i)).cell? ⟨b, 0, none⟩ = some (.int .i64 k) := by
    rw [World.cell?_setCell_other _ _ _ _ (by simp)]; exact World.cell?_setCell_same _ _ _ hc
  have e1 : ((w.setCell ⟨b, 0, none⟩ (.int .i64 k)).setCell ⟨b + 1, 0, none⟩ (.int .i64 i)).cell? ⟨b + 1, 0, none⟩ = some (.int .i64 i) :=
    World.cell?_setCell_same _ _ _ hw1
  refine ⟨rfl, _, rfl, .tuple #[], by simp [results, Try.results19], rfl, rfl, ?_, ?_, ?_⟩
  · rw [World.cell?_drew, World.cell?_alloc_past _ _ _ (by simp [World.setCell]; omega)]; exact e0
  · rw [World.cell?_drew, World.cell?_alloc_past _ _ _ (by simp [World.setCell]; omega)]; exact e1
  · exact ((((Below.refl b w).setCell (p := ⟨b, 0, none⟩) (Nat.le_refl b) _).setCell (p := ⟨b + 1, 0, none⟩) (Nat.le_succ b) _).alloc (by simp [World.setCell]; omega) _).drew

/-- What the catcher's two boxes hold while the work goes on. -/
def Tops (b : Nat) (w : World) : Prop := w.heap[b]? = some (.cells #[.int .i64 0] 22 (0, 0)) ∧ w.heap[b + 1]? = some (.cells #[.int .i64 0] 3 (0, 0))

theorem topc {w : World} {b : Nat} {v : Value} {t : TypeId} (h : w.heap[b]? = some (.cells #[v] t (0, 0))) : w.cell? ⟨b, 0, none⟩ = some v := by simp [World.cell?, h]
theorem topz {w : World} {b : Nat} {v : Value} {t : TypeId} (h : w.heap[b]? = some (.cells #[v] t (0, 0))) : w.frozen? ⟨b, 0, none⟩ = false := by simp [World.frozen?, h]

set_option maxHeartbeats 800000 in
/-- Any work, caught: what became of it, or the refusal's two numbers. -/
theorem attempt_gen (f : FuncId) (caps : Array Value) (w : World) (he : ∀ args w, (callFunc f args).run Try.prog w = .ok (.enter f args) w) (R : Option (Int × Int) → World → Prop)
    (h : Calls Try.prog f caps ((w.alloc (.cells #[.int .i64 0] 22)).alloc (.cells #[.int .i64 0] 3)) fun e w' => Tops w.heap.size w' ∧ ((e = .returned (.tuple #[]) ∧ R none w') ∨ ∃ k i, e = .panicked (refusal k i) ∧ R (some (k, i)) w')) :
    Calls Try.prog 11 #[.func (.func f) #[] caps] w fun e w' => ∃ r, e = .returned (.tuple #[.int .i64 (r.getD (0, 0)).1, .int .i64 (r.getD (0, 0)).2]) ∧ ∃ w1, R r w1 ∧ Below w.heap.size w1 w' := by
  have hmf : ∀ (fn : Fn) (first cap : Array Value) (w : World), (Instr.makeFunc fn first cap).run Try.prog w = .ok (.func fn first cap) w := fun _ _ _ _ => rfl
  go_enter_defers Try.func11, Try.ntmps11
  go_wp2
  refine h.mono ?_
  rintro e w' ⟨⟨t0, t1⟩, ⟨rfl, hR⟩ | ⟨k, i, rfl, hR⟩⟩
  · have f0 := topc t0
    have f1 := topc t1
    have f2 := topz t0
    have f3 := topz t1
    go_wp2
    refine leaves_cons (f := 19) (args := #[.pointer (some ⟨w.heap.size, 0, none⟩), .pointer (some ⟨w.heap.size + 1, 0, none⟩)]) (by simp) (by simp [go_sem]) ?_
    refine (catch_idle _ _ _).mono ?_
    rintro e u' w'' ⟨rfl, rfl, rfl⟩
    have hw1 : (w'.setCell ⟨w.heap.size, 0, none⟩ (.int .i64 0)).cell? ⟨w.heap.size + 1, 0, none⟩ = some (.int .i64 0) := by rw [World.cell?_setCell_other _ _ _ _ (by simp)]; exact f1
    have e0 : ((w'.setCell ⟨w.heap.size, 0, none⟩ (.int .i64 0)).setCell ⟨w.heap.size + 1, 0, none⟩ (.int .i64 0)).cell? ⟨w.heap.size, 0, none⟩ = some (.int .i64 0) := by
      rw [World.cell?_setCell_other _ _ _ _ (by simp)]; exact World.cell?_setCell_same _ _ _ f0
    have e1 : ((w'.setCell ⟨w.heap.size, 0, none⟩ (.int .i64 0)).setCell ⟨w.heap.size + 1, 0, none⟩ (.int .i64 0)).cell? ⟨w.heap.size + 1, 0, none⟩ = some (.int .i64 0) :=
      World.cell?_setCell_same _ _ _ hw1
    have hfin : Below w.heap.size w' ((w'.setCell ⟨w.heap.size, 0, none⟩ (.int .i64 0)).setCell ⟨w.heap.size + 1, 0, none⟩ (.int .i64 0)) :=
      ((Below.refl _ _).setCell (p := ⟨w.heap.size, 0, none⟩) (Nat.le_refl _) _).setCell (p := ⟨w.heap.size + 1, 0, none⟩) (Nat.le_succ _) _
    simp [Leaves, settle, results, Try.results11, go_sem, e0, e1]
    exact ⟨none, by simp, w', hR, hfin⟩
  · have f0 := topc t0
    have f1 := topc t1
    have f2 := topz t0
    have f3 := topz t1
    have f4 : w.heap.size + 1 < w'.heap.size := (Array.getElem?_eq_some_iff.1 t1).1
    go_wp2
    refine leaves_cons (f := 19) (args := #[.pointer (some ⟨w.heap.size, 0, none⟩), .pointer (some ⟨w.heap.size + 1, 0, none⟩)]) (by simp) (by simp [go_sem]) ?_
    refine (catch_refusal w.heap.size k i 0 0 _ f4 f0 f2 f1 f3).mono ?_
    rintro e u' w'' ⟨rfl, rfl, g0, g1, gb⟩
    simp [Leaves, settle, results, Try.results11, go_sem, g0, g1]
    exact ⟨some (k, i), by simp, w', hR, gb⟩

end Go.Proofs.Ytiohpcnnpmnjhaa
