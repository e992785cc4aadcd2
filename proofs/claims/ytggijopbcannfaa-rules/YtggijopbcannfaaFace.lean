import Derived.Test.YtggijopbcannfaaRead
import Derived.Defers
import Derived.Recover
import Derived.RegionTactic
import Derived.ChangeAlike
namespace Go.Proofs.Ytggijopbcannfaa
set_option linter.unusedVariables false
open Go.RowKit

/-- The closure that reads. -/
theorem work_any (p : Addr) (s : ByteArray) (w : World) (hm : s.size ≤ maxLen) (hc : w.cell? p = some (.string s)) :
    Calls Try.prog 8 #[.pointer (some p)] w fun e w' => e = readOut s ∧ Below w.heap.size w w' := by
  cases hr : ruleR s with
  | none =>
    go_enter Try.func8, Try.ntmps8
    go_wp2_with (go_at_call 9; refine (readRule_any s _ hm).mono ?_; rintro e w' ⟨he, hb⟩; have he' : e = .returned (.tuple #[]) := he.trans (by simp [readOut, hr]); subst he')
    go_end0
    exact ⟨by simp [readOut, hr], hb⟩
  | some x =>
    go_enter Try.func8, Try.ntmps8
    go_wp2_with (go_at_call 9; refine (readRule_any s _ hm).mono ?_; rintro e w' ⟨he, hb⟩; have he' : e = .panicked (refusal x.1 x.2) := he.trans (by simp [readOut, hr]); subst he')
    exact ⟨rfl, by simp [readOut, hr], hb⟩

set_option maxHeartbeats 400000 in
theorem catch_idle (p q : Addr) (w : World) :
    CallsD Try.prog 11 #[.pointer (some p), .pointer (some q)] .returning w fun e u' w' => e = .returned (.tuple #[]) ∧ u' = .returning ∧ w' = w := by
  have hnil : ∀ w : World, (binOp BinOp.eql 20 .nilIface .nilIface).run Try.prog w = .ok (.bool true) w := fun _ => by kernel_rfl
  refine callsD_of_wpS Try.func11 rfl fun c₀ cs hu => ?_
  apply wpS_seq
  apply wpS_region
  simp [wpOpsS, go_sem, recoverD, hu, Try.ntmps11, Exit.thenS]
  refine wpS_of_wp ?_
  go_wp2
  cases c₀
  simp_all [bodyPostS, results, Try.results11]

theorem tmps11_lit (x y : Value) : #[x, y] ++ Array.replicate (15 - #[x, y].size) undef = #[x, y, undef, undef, undef, undef, undef, undef, undef, undef, undef, undef, undef, undef, undef] := rfl

set_option maxHeartbeats 400000 in
/-- The deferred closure of a frame that gives up: the two named results are laid. -/
theorem catch_refusal (b : Nat) (k i x y : Int) (w : World) (hb : b + 1 < w.heap.size) (hc : w.cell? ⟨b, 0, none⟩ = some (.int .i64 x)) (hz : w.frozen? ⟨b, 0, none⟩ = false) (hc' : w.cell? ⟨b + 1, 0, none⟩ = some (.int .i64 y)) (hz' : w.frozen? ⟨b + 1, 0, none⟩ = false) :
    CallsD Try.prog 11 #[.pointer (some ⟨b, 0, none⟩), .pointer (some ⟨b + 1, 0, none⟩)] (.panicking (refusal k i)) w fun e u' w' =>
      e = .returned (.tuple #[]) ∧ u' = .panicking [{ v := .iface 37 (.agg #[.int .i64 k, .int .i64 i]), recovered := true }] ∧ w'.cell? ⟨b, 0, none⟩ = some (.int .i64 k) ∧ w'.cell? ⟨b + 1, 0, none⟩ = some (.int .i64 i) ∧ Below b w w' := by
  have hne : ∀ (v : Value) (w : World), (binOp BinOp.eql 20 (.iface 37 v) .nilIface).run Try.prog w = .ok (.bool false) w := fun _ _ => rfl
  have hta : ∀ (v : Value) (w : World), (Instr.typeAssert (.iface 37 v) 20 37 true).run Try.prog w = .ok (.tuple #[v, .bool true]) w := fun _ _ => by kernel_rfl
  have hb0 : b < w.heap.size := by omega
  have hb1 : (b == w.heap.size) = false := by simp; omega
  have hb2 : (b + 1 == w.heap.size) = false := by simp; omega
  refine callsD_of_wpS Try.func11 rfl fun c₀ cs hu => ?_
  rw [Try.ntmps11, tmps11_lit]
  apply wpS_seq
  apply wpS_region
  simp [wpOpsS, go_sem, recoverD, hu, Exit.thenS, refusal]
  refine wpS_of_wp ?_
  go_wp2
  go_region
  have hw1 : (w.setCell ⟨b, 0, none⟩ (.int .i64 k)).cell? ⟨b + 1, 0, none⟩ = some (.int .i64 y) := by rw [World.cell?_setCell_other _ _ _ _ (by simp)]; exact hc'
  have e0 : ((w.setCell ⟨b, 0, none⟩ (.int .i64 k)).setCell ⟨b + 1, 0, none⟩ (.int .i64 i)).cell? ⟨b, 0, none⟩ = some (.int .i64 k) := by
    rw [World.cell?_setCell_other _ _ _ _ (by simp)]; exact World.cell?_setCell_same _ _ _ hc
  have e1 : ((w.setCell ⟨b, 0, none⟩ (.int .i64 k)).setCell ⟨b + 1, 0, none⟩ (.int .i64 i)).cell? ⟨b + 1, 0, none⟩ = some (.int .i64 i) :=
    World.cell?_setCell_same _ _ _ hw1
  refine ⟨rfl, _, rfl, .tuple #[], by simp [results, Try.results11], rfl, rfl, ?_, ?_, ?_⟩
  · rw [World.cell?_drew, World.cell?_alloc_past _ _ _ (by simp [World.setCell]; omega)]; exact e0
  · rw [World.cell?_drew, World.cell?_alloc_past _ _ _ (by simp [World.setCell]; omega)]; exact e1
  · exact ((((Below.refl b w).setCell (p := ⟨b, 0, none⟩) (Nat.le_refl b) _).setCell (p := ⟨b + 1, 0, none⟩) (Nat.le_succ b) _).alloc (by simp [World.setCell]; omega) _).drew

set_option maxHeartbeats 800000 in
/-- The call's work, caught: what became of it, or the refusal's two numbers. -/
theorem attempt_any (p : Addr) (s : ByteArray) (w : World) (hm : s.size ≤ maxLen) (hp : p.block < w.heap.size) (hc : w.cell? p = some (.string s)) :
    Calls Try.prog 7 #[.func (.func 8) #[] #[.pointer (some p)]] w fun e w' => e = .returned (.tuple #[.int .i64 ((ruleR s).getD (0, 0)).1, .int .i64 ((ruleR s).getD (0, 0)).2]) ∧ Below w.heap.size w w' := by
  have hmf : ∀ (fn : Fn) (first cap : Array Value) (w : World), (Instr.makeFunc fn first cap).run Try.prog w = .ok (.func fn first cap) w := fun _ _ _ _ => rfl
  have hw2 : ((w.alloc (.cells #[.int .i64 0] 22)).alloc (.cells #[.int .i64 0] 3)).cell? p = some (.string s) := by
    rw [World.cell?_alloc_lt _ _ _ (by simp; omega), World.cell?_alloc_lt _ _ _ hp]; exact hc
  have hbl : Below w.heap.size w ((w.alloc (.cells #[.int .i64 0] 22)).alloc (.cells #[.int .i64 0] 3)) := ((Below.refl _ _).alloc (Nat.le_refl _) _).alloc (by simp) _
  have facts : ∀ w' : World, Below ((w.alloc (.cells #[.int .i64 0] 22)).alloc (.cells #[.int .i64 0] 3)).heap.size ((w.alloc (.cells #[.int .i64 0] 22)).alloc (.cells #[.int .i64 0] 3)) w' →
      w'.cell? ⟨w.heap.size, 0, none⟩ = some (.int .i64 0) ∧ w'.cell? ⟨w.heap.size + 1, 0, none⟩ = some (.int .i64 0) ∧ w'.frozen? ⟨w.heap.size, 0, none⟩ = false ∧ w'.frozen? ⟨w.heap.size + 1, 0, none⟩ = false ∧ w.heap.size + 1 < w'.heap.size := by
    intro w' hb
    have hz := hb.size
    simp at hz
    refine ⟨?_, ?_, ?_, ?_, by omega⟩
    · rw [hb.cell (p := ⟨w.heap.size, 0, none⟩) (by simp; omega)]; simp [go_sem]
    · rw [hb.cell (p := ⟨w.heap.size + 1, 0, none⟩) (by simp)]; simp [go_sem]
    · rw [hb.frozen (p := ⟨w.heap.size, 0, none⟩) (by simp; omega)]; simp [go_sem]
    · rw [hb.frozen (p := ⟨w.heap.size + 1, 0, none⟩) (by simp)]; simp [go_sem]
  cases hr : ruleR s with
  | none =>
    go_enter_defers Try.func7, Try.ntmps7
    go_wp2_with (go_at_call 8; refine (work_any p s _ hm hw2).mono ?_; rintro e w' ⟨he, hb⟩; obtain ⟨f0, f1, f2, f3, f4⟩ := facts w' hb; have he' : e = .returned (.tuple #[]) := he.trans (by simp [readOut, hr]); subst he')
    refine leaves_cons (f := 11) (args := #[.pointer (some ⟨w.heap.size, 0, none⟩), .pointer (some ⟨w.heap.size + 1, 0, none⟩)]) (by simp) (by simp [go_sem]) ?_
    refine (catch_idle _ _ _).mono ?_
    rintro e u' w'' ⟨rfl, rfl, rfl⟩
    have hw1 : (w'.setCell ⟨w.heap.size, 0, none⟩ (.int .i64 0)).cell? ⟨w.heap.size + 1, 0, none⟩ = some (.int .i64 0) := by rw [World.cell?_setCell_other _ _ _ _ (by simp)]; exact f1
    have e0 : ((w'.setCell ⟨w.heap.size, 0, none⟩ (.int .i64 0)).setCell ⟨w.heap.size + 1, 0, none⟩ (.int .i64 0)).cell? ⟨w.heap.size, 0, none⟩ = some (.int .i64 0) := by
      rw [World.cell?_setCell_other _ _ _ _ (by simp)]; exact World.cell?_setCell_same _ _ _ f0
    have e1 : ((w'.setCell ⟨w.heap.size, 0, none⟩ (.int .i64 0)).setCell ⟨w.heap.size + 1, 0, none⟩ (.int .i64 0)).cell? ⟨w.heap.size + 1, 0, none⟩ = some (.int .i64 0) :=
      World.cell?_setCell_same _ _ _ hw1
    have hfin : Below w.heap.size w ((w'.setCell ⟨w.heap.size, 0, none⟩ (.int .i64 0)).setCell ⟨w.heap.size + 1, 0, none⟩ (.int .i64 0)) :=
      ((hbl.trans (hb.mono (by simp; omega))).setCell (p := ⟨w.heap.size, 0, none⟩) (Nat.le_refl _) _).setCell (p := ⟨w.heap.size + 1, 0, none⟩) (Nat.le_succ _) _
    simp [Leaves, settle, results, Try.results7, go_sem, e0, e1, hfin]
  | some x =>
    go_enter_defers Try.func7, Try.ntmps7
    go_wp2_with (go_at_call 8; refine (work_any p s _ hm hw2).mono ?_; rintro e w' ⟨he, hb⟩; obtain ⟨f0, f1, f2, f3, f4⟩ := facts w' hb; have he' : e = .panicked (refusal x.1 x.2) := he.trans (by simp [readOut, hr]); subst he')
    refine leaves_cons (f := 11) (args := #[.pointer (some ⟨w.heap.size, 0, none⟩), .pointer (some ⟨w.heap.size + 1, 0, none⟩)]) (by simp) (by simp [go_sem]) ?_
    refine (catch_refusal w.heap.size x.1 x.2 0 0 _ f4 f0 f2 f1 f3).mono ?_
    rintro e u' w'' ⟨rfl, rfl, g0, g1, gb⟩
    have hfin : Below w.heap.size w w'' := (hbl.trans (hb.mono (by simp; omega))).trans gb
    simp [Leaves, settle, results, Try.results7, go_sem, g0, g1, hfin]

set_option maxHeartbeats 400000 in
/-- Rule, whole. -/
theorem rule_any (s : ByteArray) (w : World) (hm : s.size ≤ maxLen) :
    Calls Try.prog 4 #[.string s] w fun e w' => e = .returned (.tuple #[.int .i64 ((ruleR s).getD (0, 0)).1, .int .i64 ((ruleR s).getD (0, 0)).2]) ∧ Below w.heap.size w w' := by
  have hmf : ∀ (fn : Fn) (first cap : Array Value) (w : World), (Instr.makeFunc fn first cap).run Try.prog w = .ok (.func fn first cap) w := fun _ _ _ _ => rfl
  go_enter Try.func4, Try.ntmps4
  go_wp2_with (go_at_call 7; refine (attempt_any ⟨w.heap.size, 0, none⟩ s (w.alloc (.cells #[.string s] 9)) hm (by simp) (by simp)).mono ?_; rintro e w' ⟨rfl, hb⟩)
  go_ret2
  exact ⟨rfl, ((Below.refl w.heap.size w).alloc (Nat.le_refl _) _).trans (hb.mono (by simp))⟩
end Go.Proofs.Ytggijopbcannfaa
