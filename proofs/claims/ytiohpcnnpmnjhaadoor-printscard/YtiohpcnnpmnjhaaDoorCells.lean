import Derived.Test.YtiohpcnnpmnjhaaDoorFar
import Derived.Test.YtiohpcnnpmnjhaaDoorCellRow
import Derived.Maps.AppendAt
namespace Go.Proofs.YtiohpcnnpmnjhaaDoor
open Go.RowKit
set_option linter.unusedVariables false

/-- The cells of a span. -/
def runCells (x y : Int) (n : Nat) : List Cel := (List.range n).map fun i : Nat => (x + (i : Int), y)
theorem runCells_succ (x y : Int) (n : Nat) : runCells x y (n + 1) = runCells x y n ++ [(x + (n : Int), y)] := by simp [runCells, List.range_succ]
theorem runCells_length (x y : Int) (n : Nat) : (runCells x y n).length = n := by simp [runCells]
def spanCells (s : Span) : List Cel := runCells s.1 s.2.1 s.2.2.toNat
/-- The cells of spans. -/
def cellsOf (sp : List Span) : List Cel := sp.flatMap spanCells
theorem cellsOf_snoc (a : List Span) (s : Span) : cellsOf (a ++ [s]) = cellsOf a ++ spanCells s := by simp [cellsOf]
theorem cellsOf_length : ∀ (sp : List Span), (∀ s ∈ sp, okSpan s) → ((cellsOf sp).length : Int) = total sp
  | [], _ => by simp [cellsOf, total]
  | s :: r, h => by
    have h1 := cellsOf_length r (fun x hx => h x (by simp [hx]))
    obtain ⟨_, _, h3, h4⟩ := h s (by simp)
    simp [cellsOf, total, spanCells, runCells] at h1 ⊢
    omega

theorem infoCell : (Tryd.prog.info? 53).map (fun i => (i.zero, i.size, i.bytes)) = some (some (.agg #[.int .i64 0, .int .i64 0]), 2, 16) := by kernel_rfl

set_option maxHeartbeats 1600000 in
theorem cellsOf_row (g cap : Nat) (sp : List Span) (w : World) (h : SpansAt w g sp) (hg : g < w.heap.size) (hl : sp.length ≤ 1500) (hb : ∀ s ∈ sp, okSpan s) (ht : total sp ≤ 15000000) :
    Calls Tryd.prog 29 #[.slice (some ⟨g, 0, none⟩) sp.length cap] w fun e w' => (∃ v, e = .returned v ∧ w'.ownsRow w.heap.size 53 2 v (cellsOf sp).length (flatC (cellsOf sp))) ∧ Below w.heap.size w w' := by
  obtain ⟨i0, hi, hz0, hz1, hz2⟩ := info_parts infoCell
  go_enter Tryd.func29, Tryd.ntmps29
  go_wp2
  go_loopw [3, 9] (fun v i wr => ∃ k : Nat, k ≤ sp.length ∧ i = .int .i64 k ∧ wr.ownsRow w.heap.size 53 2 v (cellsOf (sp.take k)).length (flatC (cellsOf (sp.take k))) ∧ Below w.heap.size w wr) (fun _ i _ => sp.length - (intOf i).toNat)
  case atStart => exact ⟨0, Nat.zero_le _, rfl, World.ownsRow_nil _ _ _ _, Below.refl _ _⟩
  case round =>
    obtain ⟨k, hk, rfl, own, hbw⟩ := hrel
    by_cases hlt : k < sp.length
    · obtain ⟨⟨x, y, n⟩, hs⟩ : ∃ s, sp[k]? = some s := ⟨sp[k], by simp [hlt]⟩
      obtain ⟨e0, e1, e2⟩ := (h.below hbw hg).get k _ hs
      obtain ⟨b1, b2, b3, b4⟩ := hb (x, y, n) (List.mem_of_getElem? hs)
      simp only at e0 e1 e2 b1 b2 b3 b4
      have hT : cellsOf (sp.take (k + 1)) = cellsOf (sp.take k) ++ spanCells (x, y, n) := by rw [List.take_add_one, hs]; exact cellsOf_snoc _ _
      have hB := cellsOf_length (sp.take k) (fun s hs => hb s (List.mem_of_mem_take hs))
      have hB' := total_bd (sp.take k) (fun s hs => hb s (List.mem_of_mem_take hs))
      have hL : (sp.take k).length ≤ k := List.length_take_le _ _
      have hC : (cellsOf (sp.take k)).length ≤ 15000000 := by omega
      obtain ⟨C, hCd⟩ : ∃ C, cellsOf (sp.take k) = C := ⟨_, rfl⟩
      rw [hCd] at own hT hC
      have HT : Hid (cellsOf (sp.take (k + 1)) = C ++ spanCells (x, y, n)) := hT
      clear hT hs hL hB hB' hCd
      obtain ⟨nn, rfl⟩ : ∃ nn : Nat, n = (nn : Int) := ⟨n.toNat, by omega⟩
      have hsz := hbw.size
      obtain ⟨sb, hsb⟩ : ∃ sb, wr.heap.size = sb := ⟨_, rfl⟩
      rw [hsb] at hsz
      go_wp2
      go_loopw [3, 15] (fun v i wy => ∃ j : Nat, j ≤ nn ∧ i = .int .i64 j ∧ wy.ownsRow w.heap.size 53 2 v (C.length + j) (flatC (C ++ runCells x y j)) ∧ Below w.heap.size w wy ∧ wy.heap[sb]? = some (.cells #[.int .i64 x, .int .i64 y, .int .i64 (nn : Int)] 61 (0, 0))) (fun _ i _ => nn - (intOf i).toNat)
      case atStart =>
        refine ⟨0, Nat.zero_le _, rfl, ?_, hbw.alloc (by omega) _, ?_⟩
        · simpa [runCells] using own.alloc _
        · rw [← hsb]; show (wr.heap.push _)[wr.heap.size]? = _; simp
      case round =>
        clear own
        obtain ⟨j, hj, rfl, own, hbw2, hh⟩ := hrel
        by_cases hlt2 : j < nn
        · have c0 : wr.cell? ⟨sb, 0, none⟩ = some (.int .i64 x) := by simp [World.cell?, hh]
          have c1 : wr.cell? ⟨sb, 1, none⟩ = some (.int .i64 y) := by simp [World.cell?, hh]
          have hsz2 := hbw2.size
          have sbl : sb < wr.heap.size := (Array.getElem?_eq_some_iff.1 hh).1
          go_wp2_with (at_builtin; refine wpList_append_own _ rfl _ _ 35 rfl w.heap.size 53 i0 (.agg #[.int .i64 0, .int .i64 0]) 2 16 Tryd.underlying35 hi hz0 hz1 hz2 rfl (by decide) _ _ _ rfl (own.alloc _) ⟨wr.heap.size, 0, none⟩ 1 1 [.int .i64 (x + (j : Int)), .int .i64 y] rfl rfl (cell_two_new _ _ _ _) (by simp [Value.oneCell']) (by unfold maxLen; omega) (by omega) (by simp; omega) ?_; intro v' w1 own1 hgr _)
          go_roundw
          case rel =>
            refine ⟨j + 1, by omega, by go_num, ?_, (hbw2.alloc (by omega) _).grown hgr (by simp; omega) (fun k hk => (own.lt k hk).1), other_kept (own.alloc _) hgr (by rw [Below.heap_alloc _ _ _ sbl]; exact hh) (by decide)⟩
            rw [runCells_succ, ← List.append_assoc, flatC_append]
            exact own1
          case measure => simp [intOf]; omega
        · have hj' : j = nn := by omega
          subst hj'
          have HO : Hid (wr.ownsRow w.heap.size 53 2 u3 (cellsOf (sp.take (k + 1))).length (flatC (cellsOf (sp.take (k + 1))))) := by
            show wr.ownsRow _ _ _ _ _ _
            rw [HT.out, List.length_append]
            simpa [spanCells, runCells_length] using own
          go_wp2
          go_roundw
          case rel => exact ⟨k + 1, by omega, by go_num, HO.out, hbw2⟩
          case measure => simp [intOf]; omega
    · have hk' : k = sp.length := by omega
      subst hk'
      rw [List.take_length] at own
      go_wp2
      go_ret
      exact ⟨⟨_, rfl, own⟩, hbw⟩

set_option maxHeartbeats 800000 in
theorem cellsOf_any (B : Nat) (v : Value) (sp : List Span) (w : World) (h : w.ownsRow B 61 3 v sp.length (flat sp)) (hl : sp.length ≤ 1500) (hb : ∀ s ∈ sp, okSpan s) :
    Calls Tryd.prog 29 #[v] w fun e w' => (∃ v, e = .returned v ∧ w'.ownsRow w.heap.size 53 2 v (cellsOf sp).length (flatC (cellsOf sp))) ∧ Below w.heap.size w w' := by
  rcases spans_cases h with ⟨rfl, rfl⟩ | ⟨g, cap, rfl, hS, hg⟩
  · go_enter Tryd.func29, Tryd.ntmps29
    go_wp2
    refine wp_loop_rounds 1 ?_
    rw [rounds_succ]
    go_wp2
    go_ret
    exact ⟨⟨_, rfl, World.ownsRow_nil _ _ _ _⟩, Below.refl _ _⟩
  · have := total_bd sp hb
    exact cellsOf_row g cap sp w hS hg hl hb (by omega)

end Go.Proofs.YtiohpcnnpmnjhaaDoor
