import Derived.Test.YtggijopbcannfaaPlain
import Derived.Laws.Rows
import Derived.Laws.Tables
import Derived.Deep.MidRow
namespace Go.Proofs.Ytggijopbcannfaa
set_option linter.unusedVariables false
open Go.RowKit
variable {P : Program}

/-- Block g holds n cells, whatever they are. -/
def HasRow (w : World) (g n : Nat) : Prop := ∃ (cs : Array Value) (t : TypeId), w.heap[g]? = some (.cells cs t (0, 0)) ∧ cs.size = n ∧ cs.all (·.oneCell') = true

/-- Nothing but block g has turned. -/
structure Only (g : Nat) (w w' : World) : Prop where
  os : w'.os = w.os
  tape : w'.tape = w.tape
  output : w'.output = w.output
  size : w'.heap.size = w.heap.size
  block : ∀ k, k ≠ g → w'.heap[k]? = w.heap[k]?

theorem Only.refl (g : Nat) (w : World) : Only g w w := ⟨rfl, rfl, rfl, rfl, fun _ _ => rfl⟩
theorem Only.trans {g : Nat} {a b c : World} (h : Only g a b) (k : Only g b c) : Only g a c :=
  ⟨k.os.trans h.os, k.tape.trans h.tape, k.output.trans h.output, k.size.trans h.size, fun i hi => (k.block i hi).trans (h.block i hi)⟩
theorem Only.below {g B : Nat} {w w' : World} (h : Only g w w') (hB : B ≤ g) : Below B w w' :=
  ⟨h.os, h.tape, h.output, Nat.le_of_eq h.size.symm, fun k hk => h.block k (by omega)⟩
theorem Only.setCell (w : World) (g i : Nat) (v : Value) : Only g w (w.setCell ⟨g, i, none⟩ v) :=
  ⟨rfl, rfl, rfl, by simp [World.setCell], fun k hk => heap_setCell_other w _ k v hk⟩
theorem Only.setRow (w : World) (g : Nat) (cs : Array Value) : Only g w (w.setRow g cs) :=
  ⟨rfl, rfl, rfl, by simp, fun k hk => setRow_other w g k cs (fun e => hk e)⟩

theorem HasRow.other {w w' : World} {g k n : Nat} (h : HasRow w k n) (ho : Only g w w') (hk : k ≠ g) : HasRow w' k n := by
  obtain ⟨cs, t, h1, h2⟩ := h
  exact ⟨cs, t, (ho.block k hk).trans h1, h2⟩
theorem HasRow.lt {w : World} {g n : Nat} (h : HasRow w g n) : g < w.heap.size := by
  obtain ⟨cs, t, h1, h2⟩ := h
  exact (Array.getElem?_eq_some_iff.1 h1).1
theorem HasRow.below {w w' : World} {B k n : Nat} (h : HasRow w k n) (hb : Below B w w') (hk : k < B) : HasRow w' k n := by
  obtain ⟨cs, t, h1, h2⟩ := h
  exact ⟨cs, t, (hb.block k hk).trans h1, h2⟩
theorem HasRow.new (w : World) (cs : Array Value) (t : TypeId) (n : Nat) (hn : cs.size = n) (h1 : cs.all (·.oneCell') = true) : HasRow (w.alloc (.cells cs t)) w.heap.size n :=
  ⟨cs, t, heap_alloc_new w _, hn, h1⟩
theorem HasRow.old {w : World} {k n : Nat} (h : HasRow w k n) (o : Obj) : HasRow (w.alloc o) k n := by
  have hl := h.lt
  obtain ⟨cs, t, h1, h2⟩ := h
  exact ⟨cs, t, (Go.RowKit.Below.heap_alloc w o k hl).trans h1, h2⟩

theorem HasRow.there {w : World} {g n : Nat} (h : HasRow w g n) (o m : Nat) (hm : o + m ≤ n) : w.there g o m := by
  obtain ⟨cs, t, h1, h2, h3⟩ := h
  intro j hj
  refine ⟨?_, frozen_of_row w g (o + j) cs t h1⟩
  rw [cell_of_row w g (o + j) cs t (0, 0) h1]
  simp; omega

theorem all_set {cs : Array Value} {i : Nat} {v : Value} (h : cs.all (·.oneCell') = true) (hv : v.oneCell' = true) : (cs.setIfInBounds i v).all (·.oneCell') = true := by
  rw [Array.all_eq_true_iff_forall_mem] at *
  intro x hx
  rw [Array.mem_iff_getElem?] at hx
  obtain ⟨k, hk⟩ := hx
  rw [Array.getElem?_setIfInBounds] at hk
  split at hk
  · split at hk
    · cases hk; exact hv
    · cases hk
  · exact h x (Array.mem_iff_getElem?.2 ⟨k, hk⟩)

theorem HasRow.setCell {w : World} {g n : Nat} (h : HasRow w g n) (i : Nat) (v : Value) (hv : v.oneCell' = true) : HasRow (w.setCell ⟨g, i, none⟩ v) g n := by
  obtain ⟨cs, t, h1, h2, h3⟩ := h
  exact ⟨_, t, heap_setCell_same w g i cs t v h1, by simpa using h2, all_set h3 hv⟩

theorem setCells_has {g n : Nat} : ∀ (vs : List Value) (o : Nat) (w : World), HasRow w g n → (∀ v ∈ vs, v.oneCell' = true) → HasRow (w.setCells g o vs) g n ∧ Only g w (w.setCells g o vs)
  | [], _, w, h, _ => ⟨h, Only.refl g w⟩
  | v :: r, o, w, h, hv => by
    have h1 := h.setCell o v (hv v (by simp))
    obtain ⟨h2, h3⟩ := setCells_has r (o + 1) _ h1 (fun x hx => hv x (by simp [hx]))
    exact ⟨h2, (Only.setCell w g o v).trans h3⟩

/-- A whole row read. -/
theorem wpList_load_has {ops : Array Oper} {rest : List Oper} {o : Oper} {a : Act} {w : World} {Q : Exit → Act → World → Prop} (hgd : o.guard = none) (ty : TypeId) (x : Operand) (ho : o.op = .load ty x)
    (g n : Nat) (hx : a.eval x = .pointer (some ⟨g, 0, none⟩)) (d : TypeDesc) (hr : HasRow w g n)
    (hu : P.underlying ty = some d) (hd : (match d with | .struct _ | .array _ _ => true | _ => false) = true) (hi : (P.info? ty).map (·.size) = some n)
    (h : ∀ cs : Array Value, cs.size = n → cs.all (·.oneCell') = true → wpList P ops Q rest (a.put o.dst (.agg cs)) w) : wpList P ops Q (o :: rest) a w := by
  obtain ⟨cs, t, h1, h2, h3⟩ := hr
  exact wpList_load_row hgd ty x ho g hx t cs (0, 0) d h1 hu hd (by rw [h2]; exact hi) (h cs h2 h3)

/-- A whole value stored into a row, from place i of the row on. -/
theorem wpList_store_has {ops : Array Oper} {rest : List Oper} {o : Oper} {a : Act} {w : World} {Q : Exit → Act → World → Prop} (hgd : o.guard = none) (ty : TypeId) (x y : Operand) (ho : o.op = .store ty x y)
    (g i m n : Nat) (cells : Array Value) (hx : a.eval x = .pointer (some ⟨g, i, none⟩)) (hy : a.eval y = .agg cells) (hr : HasRow w g n)
    (hm : cells.size = m) (hmn : i + m ≤ n) (hi : (P.info? ty).map (·.size) = some m) (h1 : cells.all (·.oneCell') = true)
    (h : ∀ w', HasRow w' g n → Only g w w' → wpList P ops Q rest (a.put o.dst undef) w') : wpList P ops Q (o :: rest) a w := by
  obtain ⟨h2, h3⟩ := setCells_has (g := g) (n := n) cells.toList i w hr (fun v hv => (Array.all_eq_true_iff_forall_mem.1 h1) v (by simpa using hv))
  exact wpList_store_mid hgd ty x y ho g i cells hx hy (hr.there i _ (by omega)) (by rw [hm]; exact hi) h1 (h _ h2 h3)

end Go.Proofs.Ytggijopbcannfaa
