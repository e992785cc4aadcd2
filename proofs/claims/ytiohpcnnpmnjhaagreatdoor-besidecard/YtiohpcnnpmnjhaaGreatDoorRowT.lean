import Derived.Test.YtiohpcnnpmnjhaaGreatDoorRowZ
import Derived.Test.YtiohpcnnpmnjhaaGreatDoorCodeFace
namespace Go.Proofs.YtiohpcnnpmnjhaaGreatDoor
open Go.ChangeShapes Go.WideShapes Go.ChangeAt Go.RowKit
set_option linter.unusedVariables false

theorem gTurn : Tryz.prog.globalNamed "orbit/orbit.turnings" = some 0 := by kernel_rfl
theorem tTurn : (Tryz.prog.globals[0]?).map (·.type) = some 172 := by kernel_rfl
theorem cTurn8 : Tryz.prog.cellsOf 172 = 32 := by kernel_rfl
theorem cTurn : Tryz.prog.cellsOf 171 = 4 := by kernel_rfl
theorem cTwo : Tryz.prog.cellsOf 112 = 2 := by kernel_rfl
theorem cInt : Tryz.prog.cellsOf 3 = 1 := by kernel_rfl

theorem chunks (c : Nat) : ∀ (n : Nat) (cs : List Value) (L : Nat → List Value), cs.length = n * c → (∀ i, i < n → (cs.drop (i * c)).take c = L i) → cs = (List.range n).flatMap L
  | 0, cs, L, h, _ => by
    have : cs = [] := List.length_eq_zero_iff.1 (by simpa using h)
    simp [this]
  | n + 1, cs, L, h, hL => by
    have hlen : cs.length = n * c + c := by rw [h, Nat.add_mul, Nat.one_mul]
    have ih := chunks c n (cs.take (n * c)) L (by rw [List.length_take]; omega) fun i hi => by
      rw [← hL i (by omega), List.drop_take, List.take_take]
      congr 1
      have : (i + 1) * c ≤ n * c := Nat.mul_le_mul_right c (by omega)
      rw [Nat.add_mul, Nat.one_mul] at this
      omega
    have hl := hL n (by omega)
    rw [List.take_of_length_le (by rw [List.length_drop]; omega)] at hl
    rw [List.range_succ, List.flatMap_append, ← ih]
    simp only [List.flatMap_cons, List.flatMap_nil, List.append_nil]
    rw [← hl, List.take_append_drop]

theorem two_cells {H : Type} {enc : TypeId × Value → H} {w : World} {base : Nat} {sp : Nat → Bool} {held : Bool} {fuel : Nat} {cs : List Value} {a b : Int} {p : List MemPlace}
    (h : DataW.trod enc Tryz.prog w base sp held fuel 112 cs = some (.agg [.lit (.int .i64 a), .lit (.int .i64 b)], p)) : cs = [.int .i64 a, .int .i64 b] :=
  Lib.cells_of_tab (zs := [a, b]) (k := .i64) Tryz.underlying112 Tryz.underlying3 cInt cTwo h
theorem turn_cells1 {H : Type} {enc : TypeId × Value → H} {w : World} {base : Nat} {sp : Nat → Bool} {held : Bool} {fuel : Nat} {cs : List Value} {a b c d : Int} {p : List MemPlace}
    (h : DataW.trod enc Tryz.prog w base sp held fuel 171 cs = some (.agg [.agg [.lit (.int .i64 a), .lit (.int .i64 b)], .agg [.lit (.int .i64 c), .lit (.int .i64 d)]], p)) : cs = [.int .i64 a, .int .i64 b, .int .i64 c, .int .i64 d] := by
  obtain ⟨xs, m, rfl, hx, hl, hxl, hi⟩ := DataW.trod_array Tryz.underlying171 h
  rw [cTurn] at hl
  rw [cTwo] at hi
  have hxs : xs.map (·.1) = [.agg [.lit (.int .i64 a), .lit (.int .i64 b)], .agg [.lit (.int .i64 c), .lit (.int .i64 d)]] := by
    have := congrArg Prod.fst hx
    simpa using this.symm
  rcases xs with _ | ⟨⟨y0, p0⟩, xs⟩
  · simp at hxl
  rcases xs with _ | ⟨⟨y1, p1⟩, xs⟩
  · simp at hxl
  rcases xs with _ | ⟨y, xs⟩
  rotate_left
  · simp at hxl
  simp only [List.map_cons, List.map_nil, List.cons.injEq, and_true] at hxs
  obtain ⟨rfl, rfl⟩ := hxs
  have c0 := two_cells (hi 0 (by omega))
  have c1 := two_cells (hi 1 (by omega))
  have := chunks 2 2 cs (fun i => if i = 0 then [.int .i64 a, .int .i64 b] else [.int .i64 c, .int .i64 d]) (by rw [hl]) (fun i h => by
    have : i = 0 ∨ i = 1 := by omega
    rcases this with rfl | rfl
    · exact c0
    · exact c1)
  rw [this]
  rfl
theorem turn_cells {H : Type} {enc : TypeId × Value → H} {w : World} {base : Nat} {sp : Nat → Bool} {held : Bool} {fuel : Nat} {cs : List Value} {p : List MemPlace}
    (h : DataW.trod enc Tryz.prog w base sp held fuel 172 cs = some (Rows.laid_orbit_orbit_turnings, p)) : cs.toArray = turnA := by
  obtain ⟨xs, m, rfl, hx, hl, hxl, hi⟩ := DataW.trod_array Tryz.underlying172 h
  rw [cTurn8] at hl
  rw [cTurn] at hi
  have hxs : (DataW.agg (xs.map (·.1)) : DataW H) = Rows.laid_orbit_orbit_turnings := by
    have := congrArg Prod.fst hx
    exact this.symm
  unfold Rows.laid_orbit_orbit_turnings at hxs
  rw [DataW.agg.injEq] at hxs
  rcases xs with _ | ⟨⟨y0, p0⟩, xs⟩
  · simp at hxl
  rcases xs with _ | ⟨⟨y1, p1⟩, xs⟩
  · simp at hxl
  rcases xs with _ | ⟨⟨y2, p2⟩, xs⟩
  · simp at hxl
  rcases xs with _ | ⟨⟨y3, p3⟩, xs⟩
  · simp at hxl
  rcases xs with _ | ⟨⟨y4, p4⟩, xs⟩
  · simp at hxl
  rcases xs with _ | ⟨⟨y5, p5⟩, xs⟩
  · simp at hxl
  rcases xs with _ | ⟨⟨y6, p6⟩, xs⟩
  · simp at hxl
  rcases xs with _ | ⟨⟨y7, p7⟩, xs⟩
  · simp at hxl
  rcases xs with _ | ⟨y, xs⟩
  rotate_left
  · simp at hxl
  simp only [List.map_cons, List.map_nil, List.cons.injEq, and_true] at hxs
  obtain ⟨rfl, rfl, rfl, rfl, rfl, rfl, rfl, rfl⟩ := hxs
  have c0 := turn_cells1 (hi 0 (by omega))
  have c1 := turn_cells1 (hi 1 (by omega))
  have c2 := turn_cells1 (hi 2 (by omega))
  have c3 := turn_cells1 (hi 3 (by omega))
  have c4 := turn_cells1 (hi 4 (by omega))
  have c5 := turn_cells1 (hi 5 (by omega))
  have c6 := turn_cells1 (hi 6 (by omega))
  have c7 := turn_cells1 (hi 7 (by omega))
  have := chunks 4 8 cs (fun i => (wayA i).toList) (by rw [hl]) (fun i h => by
    have : i = 0 ∨ i = 1 ∨ i = 2 ∨ i = 3 ∨ i = 4 ∨ i = 5 ∨ i = 6 ∨ i = 7 := by omega
    rcases this with rfl | rfl | rfl | rfl | rfl | rfl | rfl | rfl
    · exact c0
    · exact c1
    · exact c2
    · exact c3
    · exact c4
    · exact c5
    · exact c6
    · exact c7)
  rw [this]
  rfl

theorem door_met4 (os : Os) (args : Array Value) : laidMetH Tryz.prog Rows.codesRow.laid ((World.doorLaid Tryz.prog 400 os).forCall (fun _ _ => 0) ⟨#[], args, []⟩).memory :=
  laidMetH_of_parts3 (fuel := 8) (laidMet_of_run' 8 (by kernel_rfl) (by kernel_rfl)) (by kernel_rfl) (by kernel_rfl)

theorem tabs_of_laid {W : World} (h : laidMetH Tryz.prog Rows.codesRow.laid W) : Tab W.heap.size W ∧ TurnTab W := by
  rw [MakeChecks.laidMetH_plain _ _ _ (by kernel_rfl)] at h
  obtain ⟨ps, ⟨g0, t0, cs0, f0, p0, q0, hg0, ht0, hv0, hd0, ⟨g1, t1, cs1, f1, p1, q1, hg1, ht1, hv1, hd1, ⟨g2, t2, cs2, f2, p2, q2, hg2, ht2, hv2, hd2, ⟨g3, t3, cs3, f3, p3, q3, hg3, ht3, hv3, hd3, _, _⟩, _⟩, _⟩, _⟩, _, _⟩ := h
  obtain rfl := Option.some.inj (gPow.symm.trans hg2)
  obtain rfl := Option.some.inj (tPow.symm.trans ht2)
  obtain rfl := Option.some.inj (gTurn.symm.trans hg3)
  obtain rfl := Option.some.inj (tTurn.symm.trans ht3)
  refine ⟨Lib.tabBelow_of_tabIs ?_, ?_⟩
  · unfold Lib.TabIs
    rw [hv2, ← Lib.cells_of_tab (zs := Lib.pow10Tab) (k := .u64) Tryz.underlying231 Tryz.underlying202 cPow dPow hd2]
  · have e : cs3 = turnA := by have := turn_cells hd3; simpa using this
    subst e
    unfold World.var? at hv3
    rw [gTurn] at hv3
    simp only [Option.bind_some] at hv3
    split at hv3
    · rename_i cs t f hh
      cases hv3
      exact ⟨_, _, hh⟩
    · cases hv3

end Go.Proofs.YtiohpcnnpmnjhaaGreatDoor
