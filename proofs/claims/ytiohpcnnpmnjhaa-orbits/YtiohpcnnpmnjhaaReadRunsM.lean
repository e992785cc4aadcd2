import Derived.Test.YtiohpcnnpmnjhaaReader
import Derived.Deep.RegionLaw
import Derived.Laws.AppendOwn
import Derived.RegionTactic
import Derived.OwnWalk
import Derived.Test.YtiohpcnnpmnjhaaRunsM
import Derived.RangeFuncBox
import Derived.Deep.LoopGhost
namespace Go.Proofs.Ytiohpcnnpmnjhaa
open Go.RowKit
set_option linter.unusedVariables false

theorem step_append_own {P : Program} {ops : Array Oper} {o : Oper} {a : Act} {w : World} {K : Act → World → Prop} {Q : Exit → Act → World → Prop} {E : Prop}
    (hg : o.guard = none) (s x : Operand) (t : TypeId) (ho : o.op = .call { callee := .builtin .append, args := #[s, x], argTypes := #[t, t] })
    (base : Nat) (e : TypeId) (i : TypeInfo) (z : Value) (size bytes : Nat) (ht : P.underlying t = some (.slice e)) (hi : P.info? e = some i) (hz : i.zero = some z)
    (hsize : i.size = size) (hby : i.bytes = bytes) (hzs : z.cells.size = size) (hsz : 0 < size)
    (v : Value) (n : Nat) (xs : List Value) (hs : a.eval s = v) (hown : w.ownsRow base e size v n xs)
    (ad : Addr) (m c : Nat) (news : List Value) (hx : a.eval x = .slice (some ad) m c) (hl : news.length = m * size) (hnews : ∀ j u, news[j]? = some u → w.cell? (ad.add j) = some u) (h1 : ∀ u ∈ news, u.oneCell' = true)
    (h63 : n + m ≤ maxLen) (hbytes : (n + m) * bytes ≤ 140737488355328) (hbase : base ≤ w.heap.size)
    (hK : ∀ v' w', w'.ownsRow base e size v' (n + m) (xs ++ news) → w.grownBy w' v.ownBlock → K (a.put o.dst v') w') :
    if Region.wanted o (yielded ops a.tmps) = true then Oper.wp P o a w K Q else E := by
  have hw : Region.wanted o (yielded ops a.tmps) = true := by simp [Region.wanted, hg]
  rw [if_pos hw]
  exact wp_append_own w s x t ho base e i z size bytes ht hi hz hsize hby hzs hsz v n xs hs hown ad m c news hx hl hnews h1 h63 hbytes hbase fun v' w' h2 h3 _ => hK v' w' h2 h3

end Go.Proofs.Ytiohpcnnpmnjhaa

namespace Go.Proofs.Ytiohpcnnpmnjhaa
open Go.RowKit
set_option linter.unusedVariables false

/-- A span: x, y, length. -/
abbrev Span := Int × Int × Int
/-- Spans as the cells of a row. -/
def flat : List Span → List Value
  | [] => []
  | (x, y, n) :: r => .int .i64 x :: .int .i64 y :: .int .i64 n :: flat r
theorem flat_append (a b : List Span) : flat (a ++ b) = flat a ++ flat b := by
  induction a with
  | nil => rfl
  | cons h t ih => obtain ⟨x, y, n⟩ := h; simp [flat, ih]
theorem flat_length (a : List Span) : (flat a).length = a.length * 3 := by
  induction a with
  | nil => rfl
  | cons h t ih => obtain ⟨x, y, n⟩ := h; simp [flat, ih]; omega

/-- Nothing below block number B has turned but block p; none has gone. -/
structure Pad (p B : Nat) (w w' : World) : Prop where
  os : w'.os = w.os
  tape : w'.tape = w.tape
  output : w'.output = w.output
  size : w.heap.size ≤ w'.heap.size
  block : ∀ k, k < B → k ≠ p → w'.heap[k]? = w.heap[k]?
theorem Pad.refl (p B : Nat) (w : World) : Pad p B w w := ⟨rfl, rfl, rfl, Nat.le_refl _, fun _ _ _ => rfl⟩
theorem Pad.trans {p B : Nat} {a b c : World} (h : Pad p B a b) (k : Pad p B b c) : Pad p B a c :=
  ⟨k.os.trans h.os, k.tape.trans h.tape, k.output.trans h.output, Nat.le_trans h.size k.size, fun i hi hp => (k.block i hi hp).trans (h.block i hi hp)⟩
theorem Pad.of_below {p B : Nat} {a b : World} (h : Below B a b) : Pad p B a b := ⟨h.os, h.tape, h.output, h.size, fun k hk _ => h.block k hk⟩
theorem Pad.setCell {p B : Nat} {a w : World} (h : Pad p B a w) (i : Nat) (u : Value) : Pad p B a (w.setCell ⟨p, i, none⟩ u) :=
  h.trans ⟨rfl, rfl, rfl, by simp [World.setCell], fun k _ hp => Below.heap_setCell _ _ _ _ hp⟩
theorem Pad.drew {p B : Nat} {a w : World} (h : Pad p B a w) : Pad p B a w.drew := ⟨h.os, h.tape, h.output, h.size, h.block⟩
theorem Pad.cell {p B : Nat} {w w' : World} (h : Pad p B w w') {q : Addr} (hB : q.block < B) (hp : q.block ≠ p) : w'.cell? q = w.cell? q := World.cell?_of_block (w := w) (h.block q.block hB hp)
theorem Pad.frozen {p B : Nat} {w w' : World} (h : Pad p B w w') {q : Addr} (hB : q.block < B) (hp : q.block ≠ p) : w'.frozen? q = w.frozen? q := World.frozen?_of_block (w := w) (h.block q.block hB hp)
theorem Pad.below {p B C : Nat} {w w' : World} (h : Pad p B w w') (h1 : C ≤ p) (h2 : C ≤ B) : Below C w w' := ⟨h.os, h.tape, h.output, h.size, fun k hk => h.block k (by omega) (by omega)⟩

/-- The pen's block: where it began, where it is, the spans so far (a row of the call's own, from block B on). -/
structure PenAt (w : World) (p B : Nat) (x0 y0 ax ay : Int) (sp : List Span) : Prop where
  c0 : w.cell? ⟨p, 0, none⟩ = some (.int .i64 x0)
  c1 : w.cell? ⟨p, 1, none⟩ = some (.int .i64 y0)
  c2 : w.cell? ⟨p, 2, none⟩ = some (.int .i64 ax)
  c3 : w.cell? ⟨p, 3, none⟩ = some (.int .i64 ay)
  c4 : ∃ v, w.cell? ⟨p, 4, none⟩ = some v ∧ w.ownsRow B 106 3 v sp.length (flat sp)
  fz : ∀ j, w.frozen? ⟨p, j, none⟩ = false
  pB : p < B
  Bw : B ≤ w.heap.size

theorem infoSpan : (Try.prog.info? 106).map (fun i => (i.zero, i.size, i.bytes)) = some (some (.agg #[.int .i64 0, .int .i64 0, .int .i64 0]), 3, 24) := by kernel_rfl

theorem PenAt.drew {w : World} {p B : Nat} {x0 y0 ax ay : Int} {sp : List Span} (h : PenAt w p B x0 y0 ax ay sp) : PenAt w.drew p B x0 y0 ax ay sp :=
  ⟨h.c0, h.c1, h.c2, h.c3, h.c4, h.fz, h.pB, h.Bw⟩
theorem PenAt.setX {w : World} {p B : Nat} {x0 y0 ax ay : Int} {sp : List Span} (h : PenAt w p B x0 y0 ax ay sp) (x : Int) : PenAt (w.setCell ⟨p, 2, none⟩ (.int .i64 x)) p B x0 y0 x ay sp := by
  obtain ⟨v, c4, own⟩ := h.c4
  exact ⟨by rw [World.cell?_setCell_other _ _ _ _ (by simp)]; exact h.c0, by rw [World.cell?_setCell_other _ _ _ _ (by simp)]; exact h.c1,
    World.cell?_setCell_same _ _ _ h.c2, by rw [World.cell?_setCell_other _ _ _ _ (by simp)]; exact h.c3,
    ⟨v, by rw [World.cell?_setCell_other _ _ _ _ (by simp)]; exact c4, ownsRow_setCell_below own (a := ⟨p, 2, none⟩) h.pB _⟩, fun j => by simpa using h.fz j, h.pB, by simpa [World.setCell] using h.Bw⟩
theorem PenAt.setY {w : World} {p B : Nat} {x0 y0 ax ay : Int} {sp : List Span} (h : PenAt w p B x0 y0 ax ay sp) (y : Int) : PenAt (w.setCell ⟨p, 3, none⟩ (.int .i64 y)) p B x0 y0 ax y sp := by
  obtain ⟨v, c4, own⟩ := h.c4
  exact ⟨by rw [World.cell?_setCell_other _ _ _ _ (by simp)]; exact h.c0, by rw [World.cell?_setCell_other _ _ _ _ (by simp)]; exact h.c1,
    by rw [World.cell?_setCell_other _ _ _ _ (by simp)]; exact h.c2, World.cell?_setCell_same _ _ _ h.c3,
    ⟨v, by rw [World.cell?_setCell_other _ _ _ _ (by simp)]; exact c4, ownsRow_setCell_below own (a := ⟨p, 3, none⟩) h.pB _⟩, fun j => by simpa using h.fz j, h.pB, by simpa [World.setCell] using h.Bw⟩
theorem PenAt.setRow {w w1 : World} {p B : Nat} {x0 y0 ax ay : Int} {sp sp' : List Span} (h : PenAt w p B x0 y0 ax ay sp) (hb : Below B w w1) (v : Value) (own : w1.ownsRow B 106 3 v sp'.length (flat sp')) :
    PenAt (w1.setCell ⟨p, 4, none⟩ v) p B x0 y0 ax ay sp' := by
  obtain ⟨u, c4, _⟩ := h.c4
  have e : ∀ j, w1.cell? ⟨p, j, none⟩ = w.cell? ⟨p, j, none⟩ := fun j => hb.cell (p := ⟨p, j, none⟩) h.pB
  exact ⟨by rw [World.cell?_setCell_other _ _ _ _ (by simp), e]; exact h.c0, by rw [World.cell?_setCell_other _ _ _ _ (by simp), e]; exact h.c1,
    by rw [World.cell?_setCell_other _ _ _ _ (by simp), e]; exact h.c2, by rw [World.cell?_setCell_other _ _ _ _ (by simp), e]; exact h.c3,
    ⟨v, World.cell?_setCell_same (u := u) _ _ _ (by rw [e]; exact c4), ownsRow_setCell_below own (a := ⟨p, 4, none⟩) h.pB _⟩, fun j => by rw [World.frozen?_setCell, hb.frozen (p := ⟨p, j, none⟩) h.pB]; exact h.fz j, h.pB, by have := hb.size; have := h.Bw; simp [World.setCell]; omega⟩

set_option maxHeartbeats 800000 in
theorem draw_b (w : World) (p B : Nat) (x0 y0 ax ay : Int) (sp : List Span) (n : Int) (h : PenAt w p B x0 y0 ax ay sp) (h1 : -3000000000000000000 ≤ ax) (h2 : ax ≤ 3000000000000000000) (h3 : 0 ≤ n) (h4 : n ≤ 9999) :
    Calls Try.prog 72 #[.pointer (some ⟨p, 0, none⟩), .int .i64 n, .int .u8 98] w fun e w' => e = .returned (.tuple #[]) ∧ PenAt w' p B x0 y0 (ax + n) ay sp ∧ Pad p B w w' := by
  have ⟨c0, c1, c2, c3, ⟨v, c4, own⟩, fz, pB, Bw⟩ := h
  have fz2 := fz 2
  go_enter Try.func72, Try.ntmps72
  go_wp2
  go_region
  go_wp2
  go_end0
  exact ⟨rfl, (h.setX _).drew, ((Pad.refl p B w).setCell _ _).drew⟩

set_option maxHeartbeats 800000 in
theorem draw_d (w : World) (p B : Nat) (x0 y0 ax ay : Int) (sp : List Span) (n : Int) (h : PenAt w p B x0 y0 ax ay sp) (h1 : -3000000000000000000 ≤ ay) (h2 : ay ≤ 3000000000000000000) (h3 : 0 ≤ n) (h4 : n ≤ 9999) :
    Calls Try.prog 72 #[.pointer (some ⟨p, 0, none⟩), .int .i64 n, .int .u8 36] w fun e w' => e = .returned (.tuple #[]) ∧ PenAt w' p B x0 y0 x0 (ay + n) sp ∧ Pad p B w w' := by
  have ⟨c0, c1, c2, c3, ⟨v, c4, own⟩, fz, pB, Bw⟩ := h
  have fz2 := fz 2
  have fz3 := fz 3
  go_enter Try.func72, Try.ntmps72
  go_wp2
  go_region
  all_goals
    go_wp2
    go_end0
    exact ⟨rfl, ((h.setX _).setY _).drew, (((Pad.refl p B w).setCell _ _).setCell _ _).drew⟩

theorem three_new (w : World) (x y z : Value) (t : TypeId) : ∀ j u, [x, y, z][j]? = some u → (w.alloc (.cells #[x, y, z] t)).cell? ((⟨w.heap.size, 0, none⟩ : Addr).add j) = some u := by
  intro j u hj
  match j, hj with
  | 0, hj => simp at hj; subst hj; simp [Addr.add]
  | 1, hj => simp at hj; subst hj; simp [Addr.add]
  | 2, hj => simp at hj; subst hj; simp [Addr.add]
  | j + 3, hj => simp at hj

theorem pen_grown {w W w1 : World} {B n : Nat} {e : TypeId} {v : Value} {xs : List Value} {o : Obj} (hg : World.grownBy W w1 v.ownBlock) (own : w.ownsRow B e 3 v n xs) (Bw : B ≤ w.heap.size) (h1 : W.os = w.os) (h2 : W.tape = w.tape) (h3 : W.output = w.output) (h4 : W.heap = w.heap.push o) : Below B w w1 := by
  have hz : W.heap.size = w.heap.size + 1 := by rw [h4]; simp
  have hb : Below B w W := ⟨h1, h2, h3, by omega, fun k hk => by rw [h4]; exact Below.heap_alloc w o k (by omega)⟩
  exact hb.grown hg (by omega) (fun k hk => (own.lt k hk).1)

set_option maxHeartbeats 1600000 in
theorem draw_o (w : World) (p B : Nat) (x0 y0 ax ay : Int) (sp : List Span) (n : Int) (h : PenAt w p B x0 y0 ax ay sp) (h1 : -3000000000000000000 ≤ ax) (h2 : ax ≤ 3000000000000000000) (h3 : 0 ≤ n) (h4 : n ≤ 9999) (hsp : sp.length ≤ 1500) :
    Calls Try.prog 72 #[.pointer (some ⟨p, 0, none⟩), .int .i64 n, .int .u8 111] w fun e w' => e = .returned (.tuple #[]) ∧ PenAt w' p B x0 y0 (ax + n) ay (sp ++ [(ax, ay, n)]) ∧ Pad p B w w' := by
  have ⟨c0, c1, c2, c3, ⟨v, c4, own⟩, fz, pB, Bw⟩ := h
  obtain ⟨i0, hi, hz0, hz1, hz2⟩ := info_parts infoSpan
  have fz2 := fz 2
  have fz4 := fz 4
  have pw : p < w.heap.size := by omega
  go_enter Try.func72, Try.ntmps72
  go_wp2
  go_region_law (refine step_append_own rfl (.tmp 17) (.tmp 24) 100 rfl B 106 i0 (.agg #[.int .i64 0, .int .i64 0, .int .i64 0]) 3 24 Try.underlying100 hi hz0 hz1 hz2 rfl (by decide) v sp.length (flat sp) (by simp [Act.eval]) (own.alloc _) ⟨w.heap.size, 0, none⟩ 1 1 [.int .i64 ax, .int .i64 ay, .int .i64 n] (by simp [Act.eval]) rfl (three_new _ _ _ _ _) (by simp [Value.oneCell']) (by unfold maxLen; omega) (by omega) (by simp; omega) ?_; intro v' w1 own1 hg1; have hb1 := pen_grown hg1 own Bw rfl rfl rfl rfl; obtain ⟨g', cap', rfl⟩ := ownsRow_succ own1; have d2 := (hb1.cell (p := ⟨p, 2, none⟩) pB).trans c2; have d4 := (hb1.cell (p := ⟨p, 4, none⟩) pB).trans c4; have e2 := (hb1.frozen (p := ⟨p, 2, none⟩) pB).trans fz2; have e4 := (hb1.frozen (p := ⟨p, 4, none⟩) pB).trans fz4)
  all_goals
    go_wp2
    go_region
    go_wp2
    go_end0
    refine ⟨rfl, ((h.setRow hb1 _ ?_).setX _).drew, ((((Pad.of_below hb1).setCell _ _)).setCell _ _).drew⟩
    rw [flat_append, List.length_append]
    exact own1

end Go.Proofs.Ytiohpcnnpmnjhaa

namespace Go.Proofs.Ytiohpcnnpmnjhaa
open Go.RowKit
set_option linter.unusedVariables false

/-- One run: the pen goes on. -/
def penGo (x0 : Int) (st : Int × Int × List Span) (r : Nat × Int) : Int × Int × List Span :=
  if r.2 = 36 then (x0, st.2.1 + r.1, st.2.2)
  else if r.2 = 111 then (st.1 + r.1, st.2.1, st.2.2 ++ [(st.1, st.2.1, (r.1 : Int))])
  else (st.1 + r.1, st.2.1, st.2.2)
/-- All runs. -/
def penRun (x0 y0 : Int) (acc : List (Nat × Int)) : Int × Int × List Span := acc.foldl (penGo x0) (x0, y0, [])
theorem penRun_snoc (x0 y0 : Int) (acc : List (Nat × Int)) (r : Nat × Int) : penRun x0 y0 (acc ++ [r]) = penGo x0 (penRun x0 y0 acc) r := by simp [penRun]

/-- Nothing below block number B has turned but blocks b and p. -/
structure Two (b p B : Nat) (w w' : World) : Prop where
  os : w'.os = w.os
  tape : w'.tape = w.tape
  output : w'.output = w.output
  size : w.heap.size ≤ w'.heap.size
  block : ∀ k, k < B → k ≠ b → k ≠ p → w'.heap[k]? = w.heap[k]?
theorem Two.refl (b p B : Nat) (w : World) : Two b p B w w := ⟨rfl, rfl, rfl, Nat.le_refl _, fun _ _ _ _ => rfl⟩
theorem Two.trans {b p B : Nat} {x y z : World} (h : Two b p B x y) (k : Two b p B y z) : Two b p B x z :=
  ⟨k.os.trans h.os, k.tape.trans h.tape, k.output.trans h.output, Nat.le_trans h.size k.size, fun i hi hb hp => (k.block i hi hb hp).trans (h.block i hi hb hp)⟩
theorem Near.two {b : Nat} {x y : World} (h : Near b x y) (p B : Nat) : Two b p B x y := ⟨h.os, h.tape, h.output, Nat.le_of_eq h.size.symm, fun k _ hb _ => h.block k hb⟩
theorem Pad.two {p B : Nat} {x y : World} (h : Pad p B x y) (b : Nat) : Two b p B x y := ⟨h.os, h.tape, h.output, h.size, fun k hk _ hp => h.block k hk hp⟩
theorem Two.below {b p B C : Nat} {x y : World} (h : Two b p B x y) (h1 : C ≤ b) (h2 : C ≤ p) (h3 : C ≤ B) : Below C x y := ⟨h.os, h.tape, h.output, h.size, fun k hk => h.block k (by omega) (by omega) (by omega)⟩

theorem At.pad {w w' : World} {b p B : Nat} {s : ByteArray} {k : Int} {i : Nat} (h : At w b s k i) (hp : Pad p B w w') (hb : b < B) (hbp : b ≠ p) : At w' b s k i :=
  ⟨(hp.cell (q := ⟨b, 0, none⟩) hb hbp).trans h.c0, (hp.cell (q := ⟨b, 1, none⟩) hb hbp).trans h.c1, (hp.cell (q := ⟨b, 2, none⟩) hb hbp).trans h.c2, (hp.frozen (q := ⟨b, 1, none⟩) hb hbp).trans h.fz⟩

theorem ownsRow_of_block {w w' : World} {B : Nat} {e : TypeId} {m : Nat} {v : Value} {n : Nat} {xs : List Value} (h : w.ownsRow B e m v n xs) (hb : ∀ k, B ≤ k → w'.heap[k]? = w.heap[k]?) : w'.ownsRow B e m v n xs := by
  obtain ⟨h1, h2⟩ := h
  refine ⟨h1, ?_⟩
  rcases h2 with h2 | ⟨g, cap, cur, hv, hg, hh, r⟩
  · exact .inl h2
  · exact .inr ⟨g, cap, cur, hv, hg, by rw [hb g hg]; exact hh, r⟩

theorem PenAt.near {w w' : World} {b p B : Nat} {x0 y0 ax ay : Int} {sp : List Span} (h : PenAt w p B x0 y0 ax ay sp) (hn : Near b w w') (hb : b < B) (hbp : b ≠ p) : PenAt w' p B x0 y0 ax ay sp := by
  obtain ⟨v, c4, own⟩ := h.c4
  have e : ∀ j, w'.cell? ⟨p, j, none⟩ = w.cell? ⟨p, j, none⟩ := fun j => hn.cell (p := ⟨p, j, none⟩) (fun e => hbp e.symm)
  exact ⟨(e 0).trans h.c0, (e 1).trans h.c1, (e 2).trans h.c2, (e 3).trans h.c3, ⟨v, (e 4).trans c4, ownsRow_of_block own (fun k hk => hn.block k (by omega))⟩,
    fun j => (hn.frozen (p := ⟨p, j, none⟩) (fun e => hbp e.symm)).trans (h.fz j), h.pB, by rw [hn.size]; exact h.Bw⟩
theorem PenAt.drewN {w : World} {p B : Nat} {x0 y0 ax ay : Int} {sp : List Span} (h : PenAt w p B x0 y0 ax ay sp) (n : Nat) : PenAt (w.drewN n) p B x0 y0 ax ay sp :=
  ⟨h.c0, h.c1, h.c2, h.c3, h.c4, h.fz, h.pB, h.Bw⟩

/-- The pen's block, as the runs so far have left it, and how far it may have gone. -/
structure PenOf (w : World) (p B : Nat) (x0 y0 : Int) (acc : List (Nat × Int)) : Prop where
  at_ : PenAt w p B x0 y0 (penRun x0 y0 acc).1 (penRun x0 y0 acc).2.1 (penRun x0 y0 acc).2.2
  x1 : -2000000000000000001 - 9999 * (acc.length : Int) ≤ (penRun x0 y0 acc).1
  x2 : (penRun x0 y0 acc).1 ≤ 2000000000000000001 + 9999 * (acc.length : Int)
  y1 : -2000000000000000001 - 9999 * (acc.length : Int) ≤ (penRun x0 y0 acc).2.1
  y2 : (penRun x0 y0 acc).2.1 ≤ 2000000000000000001 + 9999 * (acc.length : Int)
  z1 : -2000000000000000001 ≤ x0
  z2 : x0 ≤ 2000000000000000001
  le : (penRun x0 y0 acc).2.2.length ≤ acc.length

theorem PenOf.near {w w' : World} {b p B : Nat} {x0 y0 : Int} {acc : List (Nat × Int)} (h : PenOf w p B x0 y0 acc) (hn : Near b w w') (hb : b < B) (hbp : b ≠ p) : PenOf w' p B x0 y0 acc :=
  ⟨h.at_.near hn hb hbp, h.x1, h.x2, h.y1, h.y2, h.z1, h.z2, h.le⟩
theorem PenOf.drewN {w : World} {p B : Nat} {x0 y0 : Int} {acc : List (Nat × Int)} (h : PenOf w p B x0 y0 acc) (n : Nat) : PenOf (w.drewN n) p B x0 y0 acc :=
  ⟨h.at_.drewN n, h.x1, h.x2, h.y1, h.y2, h.z1, h.z2, h.le⟩

/-- One run is drawn. -/
theorem draw_any (w : World) (p B : Nat) (x0 y0 : Int) (acc : List (Nat × Int)) (n : Nat) (c : Int) (h : PenOf w p B x0 y0 acc) (hn : n ≤ 9999) (hc : isLt c = true) (hl : acc.length ≤ 1500) :
    Calls Try.prog 72 #[.pointer (some ⟨p, 0, none⟩), .int .i64 (n : Int), .int .u8 c] w fun e w' => e = .returned (.tuple #[]) ∧ PenOf w' p B x0 y0 (acc ++ [(n, c)]) ∧ Pad p B w w' := by
  obtain ⟨ha, x1, x2, y1, y2, z1, z2, le⟩ := h
  have hcs : c = 98 ∨ c = 111 ∨ c = 36 := by unfold isLt at hc; simpa [or_assoc] using hc
  have hps := penRun_snoc x0 y0 acc (n, c)
  obtain ⟨⟨ax, ay, sp⟩, hP⟩ : ∃ P, penRun x0 y0 acc = P := ⟨_, rfl⟩
  rw [hP] at ha x1 x2 y1 y2 le hps
  simp only at ha x1 x2 y1 y2 le
  rcases hcs with rfl | rfl | rfl
  · refine (draw_b w p B x0 y0 ax ay sp n ha (by omega) (by omega) (by omega) (by omega)).mono ?_
    rintro e w' ⟨rfl, h1, h2⟩
    refine ⟨rfl, ?_, h2⟩
    simp [penGo] at hps
    constructor <;> first | assumption | (rw [hps]; first | exact h1 | (simp; omega))
  · refine (draw_o w p B x0 y0 ax ay sp n ha (by omega) (by omega) (by omega) (by omega) (by omega)).mono ?_
    rintro e w' ⟨rfl, h1, h2⟩
    refine ⟨rfl, ?_, h2⟩
    simp [penGo] at hps
    constructor <;> first | assumption | (rw [hps]; first | exact h1 | (simp; omega))
  · refine (draw_d w p B x0 y0 ax ay sp n ha (by omega) (by omega) (by omega) (by omega)).mono ?_
    rintro e w' ⟨rfl, h1, h2⟩
    refine ⟨rfl, ?_, h2⟩
    simp [penGo] at hps
    constructor <;> first | assumption | (rw [hps]; first | exact h1 | (simp; omega))

/-- What readRuns does: it is refused, or the runs are drawn. -/
def RunsOut (b p B : Nat) (s : ByteArray) (k : Int) (x0 y0 : Int) (r : Nat ⊕ (List (Nat × Int) × Nat)) (w : World) (e : Ending) (w' : World) : Prop :=
  Two b p B w w' ∧ match r with
    | .inl i => e = .panicked (refusal k i)
    | .inr (l, i) => e = .returned (.tuple #[]) ∧ At w' b s k i ∧ i ≤ s.size ∧ PenOf w' p B x0 y0 l

set_option maxHeartbeats 1600000 in
theorem readRuns_any (b p B : Nat) (s : ByteArray) (k : Int) (i0 : Nat) (x0 y0 : Int) (w : World) (h : At w b s k i0) (hi0 : i0 ≤ s.size) (hs : s.size ≤ 1500) (hp : PenOf w p B x0 y0 []) (hbB : b < B) (hbp : b ≠ p) :
    Calls Try.prog 58 #[.pointer (some ⟨b, 0, none⟩), .pointer (some ⟨p, 0, none⟩)] w (RunsOut b p B s k x0 y0 (runsAt s (bl s i0)) w) := by
  have hnot : ∀ (x : Bool) (w : World), (Op.unary .not (.bool x)).run Try.prog w = .ok (.bool (!x)) w := fun _ _ => rfl
  go_enter Try.func58, Try.ntmps58
  go_wp2
  go_loopg [] (s.size - i0) (fun g wr => ∃ (i : Nat) (acc : List (Nat × Int)), i ≤ s.size ∧ g = s.size - i ∧ acc.length ≤ i ∧ At wr b s k i ∧ PenOf wr p B x0 y0 acc ∧ Two b p B w wr ∧ Hid (runsAt s (bl s i0) = ahead acc (runsAt s (bl s i))))
  case atStart => exact ⟨i0, [], hi0, rfl, Nat.zero_le _, h, hp, Two.refl _ _ _ _, (ahead_nil _).symm⟩
  case round =>
    obtain ⟨i, acc, hi, rfl, hacc, ha, hpen, htwo, hr⟩ := hrel
    have hbl := bl_le s i hi
    have hT := takeBlanks_any b s k i wr ha hi hs
    have hrun := runsAt_eq s (bl s i) hbl.2
    obtain ⟨j, hj⟩ : ∃ j, bl s i = j := ⟨_, rfl⟩
    rw [hj] at hbl hT hrun
    have hr' := hr.out
    rw [hj] at hr'
    clear hr hj
    have hpb := pk_bd s j
    by_cases h33 : pk s j = 33
    · rw [if_pos h33] at hrun
      rw [hrun] at hr'
      have HR : Hid (runsAt s (bl s i0) = .inr (acc ++ [], j + 1)) := hr'
      clear hrun hr'
      have hlt := lt_of_pk (s := s) (i := j) (by omega)
      go_wp2_with (first
        | (go_at_call 56; refine hT.mono ?_; rintro e w1 ⟨rfl, a1, n1⟩; have d1 := a1.c1; have d3 := a1.fz)
        | (go_at_call 31; refine (peek_any b s k j _ a1 hbl.2 hs).mono ?_; rintro e w2 ⟨rfl, q2, rfl⟩))
      refine bodyPost_ret (results_none rfl _ _ _) rfl ?_
      show RunsOut b p B s k x0 y0 (runsAt s (bl s i0)) w _ _
      rw [HR.out, List.append_nil]
      exact ⟨htwo.trans ((((n1.drewN q2).setCell _ _)).two p B), rfl, (a1.drewN q2).step, by omega, hpen.near ((n1.drewN q2).setCell _ _) hbB hbp⟩
    · rw [if_neg h33] at hrun
      have h33' : (pk s j == 33) = false := by simpa using h33
      have hd := isDigit_any (pk s j) hpb.1 hpb.2
      cases hdg : isDg (pk s j) with
      | true =>
        rw [hdg] at hd
        by_cases hbad : pk s j = 48 ∨ 4 < dg s j - j
        · have hct : cntTok s j = none := by simp [cntTok, hdg, hbad]
          rw [hct] at hrun
          simp only at hrun
          rw [hrun] at hr'
          have HR : Hid (runsAt s (bl s i0) = .inl j) := hr'
          clear hrun hr' hct
          go_wp2_with (first
          | (go_at_call 56; refine hT.mono ?_; rintro e w1 ⟨rfl, a1, n1⟩; clear hT)
          | (go_at_call 31; refine (peek_any b s k j _ a1 hbl.2 hs).mono ?_; rintro e w2 ⟨rfl, q2, rfl⟩)
          | (go_at_call 70; refine (hd _).mono ?_; rintro e w3 ⟨rfl, rfl⟩)
          | (go_at_call 71; refine (readCount_bad b s k j _ (a1.drewN _) hbl.2 hs hdg hbad).mono ?_; rintro e w4 ⟨rfl, n4⟩))
          refine ⟨rfl, ?_⟩
          show RunsOut b p B s k x0 y0 (runsAt s (bl s i0)) w _ _
          rw [HR.out]
          exact ⟨htwo.trans (((n1.drewN _).trans n4).two p B), rfl⟩
        · have hct : cntTok s j = some (dv s j (dg s j - j), bl s (dg s j)) := by simp [cntTok, hdg, hbad]
          rw [hct] at hrun
          simp only at hrun
          have hdl := dg_le s j hbl.2
          have hbl2 := bl_le s (dg s j) hdl.2
          have hdv : dv s j (dg s j - j) < 10 ^ (dg s j - j) := dv_lt s j _ (fun q hq => skip_all hbl.2 (by omega) (by show j + q < dg s j; omega))
          have hpw : 10 ^ (dg s j - j) ≤ 10000 := Nat.pow_le_pow_right (n := 10) (by omega) (by omega : dg s j - j ≤ 4)
          have hn9 : dv s j (dg s j - j) ≤ 9999 := by omega
          clear hdv hpw
          have hrc := fun w2 (a2 : At w2 b s k j) => readCount_good b s k j w2 a2 hbl.2 hs hdg (by omega) (by omega)
          have htb := fun w2 (a2 : At w2 b s k (dg s j)) => takeBlanks_any b s k (dg s j) w2 a2 hdl.2 hs
          obtain ⟨n, hn⟩ : ∃ n, dv s j (dg s j - j) = n := ⟨_, rfl⟩
          obtain ⟨m, hm⟩ : ∃ m, dg s j = m := ⟨_, rfl⟩
          obtain ⟨q, hq⟩ : ∃ q, bl s m = q := ⟨_, rfl⟩
          rw [hn] at hrun hn9
          simp only [hn] at hrc
          simp only [hm] at hrc
          rw [hm] at hrun hdl hbl2
          simp only [hm, hq] at htb
          rw [hq] at hrun hbl2
          clear hn hm hq hct hbad
          cases hlet : isLt (pk s q) with
          | true =>
            rw [hlet, if_pos rfl] at hrun
            rw [hrun, ahead_ahead] at hr'
            have HR : Hid (runsAt s (bl s i0) = ahead (acc ++ [(n, pk s q)]) (runsAt s (bl s (q + 1)))) := hr'
            clear hrun hr'
            have hqlt := lt_of_pk (isLt_pos hlet)
            go_wp2_with (first
          | (go_at_call 56; refine hT.mono ?_; rintro e w1 ⟨rfl, a1, n1⟩; clear hT)
          | (go_at_call 31; refine (peek_any b s k j _ a1 hbl.2 hs).mono ?_; rintro e w2 ⟨rfl, q2, rfl⟩)
          | (go_at_call 70; refine (hd _).mono ?_; rintro e w3 ⟨rfl, rfl⟩)
          | (go_at_call 71; refine (hrc _ (a1.drewN _)).mono ?_; rintro e w4 ⟨rfl, a4, n4⟩)
          | (go_at_call 56; refine (htb _ a4).mono ?_; rintro e w4' ⟨rfl, a4', n4'⟩)
          | (go_at_call 73; refine (readLetter_hit b s k q _ a4' hbl2.2 hs hlet).mono ?_; rintro e w5 ⟨rfl, a5, n5⟩)
          | (go_at_call 72; refine (draw_any _ p B x0 y0 acc n (pk s q) ((((hpen.near n1 hbB hbp).drewN _).near n4 hbB hbp).near (n4'.trans n5) hbB hbp) hn9 hlet (by omega)).mono ?_; rintro e w6 ⟨rfl, pen6, pad6⟩))
            go_roundg (s.size - (q + 1))
            case measure => omega
            case rel => exact ⟨q + 1, acc ++ [(n, pk s q)], by omega, rfl, by simp; omega, a5.pad pad6 hbB hbp, pen6, htwo.trans (((((n1.drewN _).trans n4).trans (n4'.trans n5)).two p B).trans (pad6.two b)), HR.out⟩
          | false =>
            rw [hlet, if_neg Bool.false_ne_true] at hrun
            rw [hrun] at hr'
            have HR : Hid (runsAt s (bl s i0) = .inl q) := hr'
            clear hrun hr'
            go_wp2_with (first
          | (go_at_call 56; refine hT.mono ?_; rintro e w1 ⟨rfl, a1, n1⟩; clear hT)
          | (go_at_call 31; refine (peek_any b s k j _ a1 hbl.2 hs).mono ?_; rintro e w2 ⟨rfl, q2, rfl⟩)
          | (go_at_call 70; refine (hd _).mono ?_; rintro e w3 ⟨rfl, rfl⟩)
          | (go_at_call 71; refine (hrc _ (a1.drewN _)).mono ?_; rintro e w4 ⟨rfl, a4, n4⟩)
          | (go_at_call 56; refine (htb _ a4).mono ?_; rintro e w4' ⟨rfl, a4', n4'⟩)
          | (go_at_call 73; refine (readLetter_miss b s k q _ a4' hbl2.2 hs hlet).mono ?_; rintro e w5 ⟨rfl, n5⟩))
            refine ⟨rfl, ?_⟩
            show RunsOut b p B s k x0 y0 (runsAt s (bl s i0)) w _ _
            rw [HR.out]
            exact ⟨htwo.trans ((((n1.drewN _).trans n4).trans (n4'.trans n5)).two p B), rfl⟩
      | false =>
        rw [hdg] at hd
        have hct : cntTok s j = some (1, j) := by simp [cntTok, hdg]
        rw [hct] at hrun
        simp only at hrun
        clear hct
        cases hlet : isLt (pk s j) with
        | true =>
          rw [hlet, if_pos rfl] at hrun
          rw [hrun, ahead_ahead] at hr'
          have HR : Hid (runsAt s (bl s i0) = ahead (acc ++ [(1, pk s j)]) (runsAt s (bl s (j + 1)))) := hr'
          clear hrun hr'
          have hqlt := lt_of_pk (isLt_pos hlet)
          go_wp2_with (first
          | (go_at_call 56; refine hT.mono ?_; rintro e w1 ⟨rfl, a1, n1⟩; clear hT)
          | (go_at_call 31; refine (peek_any b s k j _ a1 hbl.2 hs).mono ?_; rintro e w2 ⟨rfl, q2, rfl⟩)
          | (go_at_call 70; refine (hd _).mono ?_; rintro e w3 ⟨rfl, rfl⟩)
          | (go_at_call 73; refine (readLetter_hit b s k j _ (a1.drewN _) hbl.2 hs hlet).mono ?_; rintro e w5 ⟨rfl, a5, n5⟩)
          | (go_at_call 72; refine (draw_any _ p B x0 y0 acc 1 (pk s j) (((hpen.near n1 hbB hbp).drewN _).near n5 hbB hbp) (by omega) hlet (by omega)).mono ?_; rintro e w6 ⟨rfl, pen6, pad6⟩))
          go_roundg (s.size - (j + 1))
          case measure => omega
          case rel => exact ⟨j + 1, acc ++ [(1, pk s j)], by omega, rfl, by simp; omega, a5.pad pad6 hbB hbp, pen6, htwo.trans ((((n1.drewN _).trans n5).two p B).trans (pad6.two b)), HR.out⟩
        | false =>
          rw [hlet, if_neg Bool.false_ne_true] at hrun
          rw [hrun] at hr'
          have HR : Hid (runsAt s (bl s i0) = .inl j) := hr'
          clear hrun hr'
          go_wp2_with (first
          | (go_at_call 56; refine hT.mono ?_; rintro e w1 ⟨rfl, a1, n1⟩; clear hT)
          | (go_at_call 31; refine (peek_any b s k j _ a1 hbl.2 hs).mono ?_; rintro e w2 ⟨rfl, q2, rfl⟩)
          | (go_at_call 70; refine (hd _).mono ?_; rintro e w3 ⟨rfl, rfl⟩)
          | (go_at_call 73; refine (readLetter_miss b s k j _ (a1.drewN _) hbl.2 hs hlet).mono ?_; rintro e w5 ⟨rfl, n5⟩))
          refine ⟨rfl, ?_⟩
          show RunsOut b p B s k x0 y0 (runsAt s (bl s i0)) w _ _
          rw [HR.out]
          exact ⟨htwo.trans (((n1.drewN _).trans n5).two p B), rfl⟩

end Go.Proofs.Ytiohpcnnpmnjhaa
