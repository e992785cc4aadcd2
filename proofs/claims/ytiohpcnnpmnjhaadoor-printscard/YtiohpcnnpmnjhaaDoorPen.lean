import Derived.Test.YtiohpcnnpmnjhaaDoorRuns
import Derived.Test.YtiohpcnnpmnjhaaDoorStep
import Derived.Deep.RegionLaw
import Derived.Laws.AppendOwn
import Derived.RegionTactic
import Derived.OwnWalk
import Derived.RangeFuncBox
namespace Go.Proofs.YtiohpcnnpmnjhaaDoor
open Go.RowKit
set_option linter.unusedVariables false

/-- A span: x, y, length. -/
abbrev Span := Int × Int × Int
/-- Spans as the cells of a row. -/
def flat : List Span → List Value
  | [] => []
  | (x, y, n) :: r => .int .i64 x :: .int .i64 y :: .int .i64 n :: flat r
theorem flat_append (a b : List Span) : flat (a ++ b) = flat a ++ flat b := by
  induction a with
  | nil => rfl
  | cons h t ih => obtain ⟨x, y, n⟩ := h; simp [flat, ih]
theorem flat_length (a : List Span) : (flat a).length = a.length * 3 := by
  induction a with
  | nil => rfl
  | cons h t ih => obtain ⟨x, y, n⟩ := h; simp [flat, ih]; omega

/-- Nothing below block number B has turned but block p; none has gone. -/
structure Pad (p B : Nat) (w w' : World) : Prop where
  os : w'.os = w.os
  tape : w'.tape = w.tape
  output : w'.output = w.output
  size : w.heap.size ≤ w'.heap.size
  block : ∀ k, k < B → k ≠ p → w'.heap[k]? = w.heap[k]?
theorem Pad.refl (p B : Nat) (w : World) : Pad p B w w := ⟨rfl, rfl, rfl, Nat.le_refl _, fun _ _ _ => rfl⟩
theorem Pad.trans {p B : Nat} {a b c : World} (h : Pad p B a b) (k : Pad p B b c) : Pad p B a c :=
  ⟨k.os.trans h.os, k.tape.trans h.tape, k.output.trans h.output, Nat.le_trans h.size k.size, fun i hi hp => (k.block i hi hp).trans (h.block i hi hp)⟩
theorem Pad.of_below {p B : Nat} {a b : World} (h : Below B a b) : Pad p B a b := ⟨h.os, h.tape, h.output, h.size, fun k hk _ => h.block k hk⟩
theorem Pad.setCell {p B : Nat} {a w : World} (h : Pad p B a w) (i : Nat) (u : Value) : Pad p B a (w.setCell ⟨p, i, none⟩ u) :=
  h.trans ⟨rfl, rfl, rfl, by simp [World.setCell], fun k _ hp => Below.heap_setCell _ _ _ _ hp⟩
theorem Pad.drew {p B : Nat} {a w : World} (h : Pad p B a w) : Pad p B a w.drew := ⟨h.os, h.tape, h.output, h.size, h.block⟩
theorem Pad.cell {p B : Nat} {w w' : World} (h : Pad p B w w') {q : Addr} (hB : q.block < B) (hp : q.block ≠ p) : w'.cell? q = w.cell? q := World.cell?_of_block (w := w) (h.block q.block hB hp)
theorem Pad.frozen {p B : Nat} {w w' : World} (h : Pad p B w w') {q : Addr} (hB : q.block < B) (hp : q.block ≠ p) : w'.frozen? q = w.frozen? q := World.frozen?_of_block (w := w) (h.block q.block hB hp)
theorem Pad.below {p B C : Nat} {w w' : World} (h : Pad p B w w') (h1 : C ≤ p) (h2 : C ≤ B) : Below C w w' := ⟨h.os, h.tape, h.output, h.size, fun k hk => h.block k (by omega) (by omega)⟩

/-- The pen's block: where it began, where it is, the spans so far (a row of the call's own, from block B on). -/
structure PenAt (w : World) (p B : Nat) (x0 y0 ax ay : Int) (sp : List Span) : Prop where
  c0 : w.cell? ⟨p, 0, none⟩ = some (.int .i64 x0)
  c1 : w.cell? ⟨p, 1, none⟩ = some (.int .i64 y0)
  c2 : w.cell? ⟨p, 2, none⟩ = some (.int .i64 ax)
  c3 : w.cell? ⟨p, 3, none⟩ = some (.int .i64 ay)
  c4 : ∃ v, w.cell? ⟨p, 4, none⟩ = some v ∧ w.ownsRow B 61 3 v sp.length (flat sp)
  fz : ∀ j, w.frozen? ⟨p, j, none⟩ = false
  pB : p < B
  Bw : B ≤ w.heap.size

theorem infoSpan : (Tryd.prog.info? 61).map (fun i => (i.zero, i.size, i.bytes)) = some (some (.agg #[.int .i64 0, .int .i64 0, .int .i64 0]), 3, 24) := by kernel_rfl

theorem PenAt.drew {w : World} {p B : Nat} {x0 y0 ax ay : Int} {sp : List Span} (h : PenAt w p B x0 y0 ax ay sp) : PenAt w.drew p B x0 y0 ax ay sp :=
  ⟨h.c0, h.c1, h.c2, h.c3, h.c4, h.fz, h.pB, h.Bw⟩
theorem PenAt.setX {w : World} {p B : Nat} {x0 y0 ax ay : Int} {sp : List Span} (h : PenAt w p B x0 y0 ax ay sp) (x : Int) : PenAt (w.setCell ⟨p, 2, none⟩ (.int .i64 x)) p B x0 y0 x ay sp := by
  obtain ⟨v, c4, own⟩ := h.c4
  exact ⟨by rw [World.cell?_setCell_other _ _ _ _ (by simp)]; exact h.c0, by rw [World.cell?_setCell_other _ _ _ _ (by simp)]; exact h.c1,
    World.cell?_setCell_same _ _ _ h.c2, by rw [World.cell?_setCell_other _ _ _ _ (by simp)]; exact h.c3,
    ⟨v, by rw [World.cell?_setCell_other _ _ _ _ (by simp)]; exact c4, ownsRow_setCell_below own (a := ⟨p, 2, none⟩) h.pB _⟩, fun j => by simpa using h.fz j, h.pB, by simpa [World.setCell] using h.Bw⟩
theorem PenAt.setY {w : World} {p B : Nat} {x0 y0 ax ay : Int} {sp : List Span} (h : PenAt w p B x0 y0 ax ay sp) (y : Int) : PenAt (w.setCell ⟨p, 3, none⟩ (.int .i64 y)) p B x0 y0 ax y sp := by
  obtain ⟨v, c4, own⟩ := h.c4
  exact ⟨by rw [World.cell?_setCell_other _ _ _ _ (by simp)]; exact h.c0, by rw [World.cell?_setCell_other _ _ _ _ (by simp)]; exact h.c1,
    by rw [World.cell?_setCell_other _ _ _ _ (by simp)]; exact h.c2, World.cell?_setCell_same _ _ _ h.c3,
    ⟨v, by rw [World.cell?_setCell_other _ _ _ _ (by simp)]; exact c4, ownsRow_setCell_below own (a := ⟨p, 3, none⟩) h.pB _⟩, fun j => by simpa using h.fz j, h.pB, by simpa [World.setCell] using h.Bw⟩
theorem PenAt.setRow {w w1 : World} {p B : Nat} {x0 y0 ax ay : Int} {sp sp' : List Span} (h : PenAt w p B x0 y0 ax ay sp) (hb : Below B w w1) (v : Value) (own : w1.ownsRow B 61 3 v sp'.length (flat sp')) :
    PenAt (w1.setCell ⟨p, 4, none⟩ v) p B x0 y0 ax ay sp' := by
  obtain ⟨u, c4, _⟩ := h.c4
  have e : ∀ j, w1.cell? ⟨p, j, none⟩ = w.cell? ⟨p, j, none⟩ := fun j => hb.cell (p := ⟨p, j, none⟩) h.pB
  exact ⟨by rw [World.cell?_setCell_other _ _ _ _ (by simp), e]; exact h.c0, by rw [World.cell?_setCell_other _ _ _ _ (by simp), e]; exact h.c1,
    by rw [World.cell?_setCell_other _ _ _ _ (by simp), e]; exact h.c2, by rw [World.cell?_setCell_other _ _ _ _ (by simp), e]; exact h.c3,
    ⟨v, World.cell?_setCell_same (u := u) _ _ _ (by rw [e]; exact c4), ownsRow_setCell_below own (a := ⟨p, 4, none⟩) h.pB _⟩, fun j => by rw [World.frozen?_setCell, hb.frozen (p := ⟨p, j, none⟩) h.pB]; exact h.fz j, h.pB, by have := hb.size; have := h.Bw; simp [World.setCell]; omega⟩

set_option maxHeartbeats 800000 in
theorem draw_b (w : World) (p B : Nat) (x0 y0 ax ay : Int) (sp : List Span) (n : Int) (h : PenAt w p B x0 y0 ax ay sp) (h1 : -3000000000000000000 ≤ ax) (h2 : ax ≤ 3000000000000000000) (h3 : 0 ≤ n) (h4 : n ≤ 9999) :
    Calls Tryd.prog 52 #[.pointer (some ⟨p, 0, none⟩), .int .i64 n, .int .u8 98] w fun e w' => e = .returned (.tuple #[]) ∧ PenAt w' p B x0 y0 (ax + n) ay sp ∧ Pad p B w w' := by
  have ⟨c0, c1, c2, c3, ⟨v, c4, own⟩, fz, pB, Bw⟩ := h
  have fz2 := fz 2
  go_enter Tryd.func52, Tryd.ntmps52
  go_wp2
  go_region
  go_wp2
  go_end0
  exact ⟨rfl, (h.setX _).drew, ((Pad.refl p B w).setCell _ _).drew⟩

set_option maxHeartbeats 800000 in
theorem draw_d (w : World) (p B : Nat) (x0 y0 ax ay : Int) (sp : List Span) (n : Int) (h : PenAt w p B x0 y0 ax ay sp) (h1 : -3000000000000000000 ≤ ay) (h2 : ay ≤ 3000000000000000000) (h3 : 0 ≤ n) (h4 : n ≤ 9999) :
    Calls Tryd.prog 52 #[.pointer (some ⟨p, 0, none⟩), .int .i64 n, .int .u8 36] w fun e w' => e = .returned (.tuple #[]) ∧ PenAt w' p B x0 y0 x0 (ay + n) sp ∧ Pad p B w w' := by
  have ⟨c0, c1, c2, c3, ⟨v, c4, own⟩, fz, pB, Bw⟩ := h
  have fz2 := fz 2
  have fz3 := fz 3
  go_enter Tryd.func52, Tryd.ntmps52
  go_wp2
  go_region
  all_goals
    go_wp2
    go_end0
    exact ⟨rfl, ((h.setX _).setY _).drew, (((Pad.refl p B w).setCell _ _).setCell _ _).drew⟩

theorem three_new (w : World) (x y z : Value) (t : TypeId) : ∀ j u, [x, y, z][j]? = some u → (w.alloc (.cells #[x, y, z] t)).cell? ((⟨w.heap.size, 0, none⟩ : Addr).add j) = some u := by
  intro j u hj
  match j, hj with
  | 0, hj => simp at hj; subst hj; simp [Addr.add]
  | 1, hj => simp at hj; subst hj; simp [Addr.add]
  | 2, hj => simp at hj; subst hj; simp [Addr.add]
  | j + 3, hj => simp at hj

theorem pen_grown {w W w1 : World} {B n : Nat} {e : TypeId} {v : Value} {xs : List Value} {o : Obj} (hg : World.grownBy W w1 v.ownBlock) (own : w.ownsRow B e 3 v n xs) (Bw : B ≤ w.heap.size) (h1 : W.os = w.os) (h2 : W.tape = w.tape) (h3 : W.output = w.output) (h4 : W.heap = w.heap.push o) : Below B w w1 := by
  have hz : W.heap.size = w.heap.size + 1 := by rw [h4]; simp
  have hb : Below B w W := ⟨h1, h2, h3, by omega, fun k hk => by rw [h4]; exact Below.heap_alloc w o k (by omega)⟩
  exact hb.grown hg (by omega) (fun k hk => (own.lt k hk).1)

set_option maxHeartbeats 1600000 in
theorem draw_o (w : World) (p B : Nat) (x0 y0 ax ay : Int) (sp : List Span) (n : Int) (h : PenAt w p B x0 y0 ax ay sp) (h1 : -3000000000000000000 ≤ ax) (h2 : ax ≤ 3000000000000000000) (h3 : 0 ≤ n) (h4 : n ≤ 9999) (hsp : sp.length ≤ 1500) :
    Calls Tryd.prog 52 #[.pointer (some ⟨p, 0, none⟩), .int .i64 n, .int .u8 111] w fun e w' => e = .returned (.tuple #[]) ∧ PenAt w' p B x0 y0 (ax + n) ay (sp ++ [(ax, ay, n)]) ∧ Pad p B w w' := by
  have ⟨c0, c1, c2, c3, ⟨v, c4, own⟩, fz, pB, Bw⟩ := h
  obtain ⟨i0, hi, hz0, hz1, hz2⟩ := info_parts infoSpan
  have fz2 := fz 2
  have fz4 := fz 4
  have pw : p < w.heap.size := by omega
  go_enter Tryd.func52, Tryd.ntmps52
  go_wp2
  go_region_law (refine step_append_own rfl (.tmp 17) (.tmp 24) 64 rfl B 61 i0 (.agg #[.int .i64 0, .int .i64 0, .int .i64 0]) 3 24 Tryd.underlying64 hi hz0 hz1 hz2 rfl (by decide) v sp.length (flat sp) (by simp [Act.eval]) (own.alloc _) ⟨w.heap.size, 0, none⟩ 1 1 [.int .i64 ax, .int .i64 ay, .int .i64 n] (by simp [Act.eval]) rfl (three_new _ _ _ _ _) (by simp [Value.oneCell']) (by unfold maxLen; omega) (by omega) (by simp; omega) ?_; intro v' w1 own1 hg1; have hb1 := pen_grown hg1 own Bw rfl rfl rfl rfl; obtain ⟨g', cap', rfl⟩ := ownsRow_succ own1; have d2 := (hb1.cell (p := ⟨p, 2, none⟩) pB).trans c2; have d4 := (hb1.cell (p := ⟨p, 4, none⟩) pB).trans c4; have e2 := (hb1.frozen (p := ⟨p, 2, none⟩) pB).trans fz2; have e4 := (hb1.frozen (p := ⟨p, 4, none⟩) pB).trans fz4)
  all_goals
    go_wp2
    go_region
    go_wp2
    go_end0
    refine ⟨rfl, ((h.setRow hb1 _ ?_).setX _).drew, ((((Pad.of_below hb1).setCell _ _)).setCell _ _).drew⟩
    rw [flat_append, List.length_append]
    exact own1

end Go.Proofs.YtiohpcnnpmnjhaaDoor
