import Derived.Test.YtiohpcnnpmnjhaaRefRead2M
import Derived.Test.YtiohpcnnpmnjhaaWindow
namespace Go.Proofs.Ytiohpcnnpmnjhaa
open Go.RowKit
set_option linter.unusedVariables false

set_option maxHeartbeats 800000 in
theorem near_any (x y : Int) (w : World) :
    Calls Try.prog 36 #[.agg #[.int .i64 x, .int .i64 y]] w fun e w' => e = .returned (.bool (!farB x y)) ∧ w' = w.alloc (.cells #[.int .i64 x, .int .i64 y] 72) := by
  by_cases h1 : -2000000000000000000 ≤ x
  · by_cases h2 : x ≤ 2000000000000000000
    · by_cases h3 : -2000000000000000000 ≤ y
      · by_cases h4 : y ≤ 2000000000000000000
        · go_enter Try.func36, Try.ntmps36
          go_wp2
          go_ret
          exact ⟨ret_bool (by rw [show farB x y = false by simp [farB, MC]; omega]; rfl), rfl⟩
        · go_enter Try.func36, Try.ntmps36
          go_wp2
          go_ret
          exact ⟨ret_bool (by rw [show farB x y = true by simp [farB, MC]; omega]; rfl), rfl⟩
      · go_enter Try.func36, Try.ntmps36
        go_wp2
        go_ret
        exact ⟨ret_bool (by rw [show farB x y = true by simp [farB, MC]; omega]; rfl), rfl⟩
    · go_enter Try.func36, Try.ntmps36
      go_wp2
      go_ret
      exact ⟨ret_bool (by rw [show farB x y = true by simp [farB, MC]; omega]; rfl), rfl⟩
  · go_enter Try.func36, Try.ntmps36
    go_wp2
    go_ret
    exact ⟨ret_bool (by rw [show farB x y = true by simp [farB, MC]; omega]; rfl), rfl⟩

/-- More spans only come behind. -/
theorem penGo_pre (x0 : Int) (st : Int × Int × List Span) (r : Nat × Int) : ∃ m, (penGo x0 st r).2.2 = st.2.2 ++ m := by
  unfold penGo
  split
  · exact ⟨[], by simp⟩
  · split
    · exact ⟨_, rfl⟩
    · exact ⟨[], by simp⟩
theorem penFold_pre (x0 : Int) : ∀ (l : List (Nat × Int)) (st : Int × Int × List Span), ∃ m, (l.foldl (penGo x0) st).2.2 = st.2.2 ++ m
  | [], st => ⟨[], by simp⟩
  | r :: l, st => by
    obtain ⟨m1, h1⟩ := penGo_pre x0 st r
    obtain ⟨m2, h2⟩ := penFold_pre x0 l (penGo x0 st r)
    exact ⟨m1 ++ m2, by rw [List.foldl_cons, h2, h1]; simp⟩
theorem penRun_any {x y : Int} {l : List (Nat × Int)} {i : Nat} (h : (penRun x y (l.take i)).2.2.any farS = true) : (penRun x y l).2.2.any farS = true := by
  obtain ⟨m, hm⟩ := penFold_pre x (l.drop i) (penRun x y (l.take i))
  have e : penRun x y l = (l.drop i).foldl (penGo x) (penRun x y (l.take i)) := by
    unfold penRun
    rw [← List.foldl_append, List.take_append_drop]
  rw [e, hm, List.any_append, h]; rfl
theorem penRun_take {x y : Int} {l : List (Nat × Int)} {i : Nat} {r : Nat × Int} (h : l[i]? = some r) : penRun x y (l.take (i + 1)) = penGo x (penRun x y (l.take i)) r := by
  rw [List.take_add_one, h]; exact penRun_snoc _ _ _ _

/-- What the reference's Read does. -/
def RefPat (s : ByteArray) (w : World) (e : Ending) (w' : World) : Prop :=
  Below w.heap.size w w' ∧ match patR s with
    | .inl (k, i) => e = .returned (.tuple #[.slice none 0 0, .int .i64 k, .int .i64 (i : Int)])
    | .inr C => ∃ v, e = .returned (.tuple #[v, .int .i64 0, .int .i64 0]) ∧ w'.ownsRow w.heap.size 72 2 v C.length (flatC C)

theorem refPat_bad {s : ByteArray} {w w' : World} {k : Int} {i : Nat} (h : patR s = .inl (k, i)) (hb : Below w.heap.size w w') : RefPat s w (.returned (.tuple #[.slice none 0 0, .int .i64 k, .int .i64 (i : Int)])) w' := by
  unfold RefPat; rw [h]; exact ⟨hb, rfl⟩
theorem refPat_ok {s : ByteArray} {w w' : World} {C : List Cel} {v : Value} (h : patR s = .inr C) (hb : Below w.heap.size w w') (own : w'.ownsRow w.heap.size 72 2 v C.length (flatC C)) : RefPat s w (.returned (.tuple #[v, .int .i64 0, .int .i64 0])) w' := by
  unfold RefPat; rw [h]; exact ⟨hb, _, rfl, own⟩

/-- The counts lie in block g. -/
theorem counts_get {w : World} {B : Nat} {v : Value} {l : List (Nat × Int)} (own : w.ownsRow B 3 1 v l.length (l.map fun r => .int .i64 (r.1 : Int))) (h : 0 < l.length) :
    ∃ g cap, v = .slice (some ⟨g, 0, none⟩) l.length cap ∧ g < w.heap.size ∧ B ≤ g ∧ ∀ i r, l[i]? = some r → w.cell? ⟨g, i, none⟩ = some (.int .i64 (r.1 : Int)) := by
  rcases own.2 with ⟨h1, h2⟩ | ⟨g, cap, cur, rfl, hg, hh, hn, hc, hz, ht⟩
  · omega
  · refine ⟨g, cap, rfl, blk_lt hh, hg, fun i r hr => ?_⟩
    have : (l.map fun r : Nat × Int => Value.int .i64 (r.1 : Int))[i]? = some (.int .i64 (r.1 : Int)) := by simp [hr]
    rw [← ht, List.getElem?_take] at this
    split at this
    · simpa [World.cell?, hh] using this
    · cases this

theorem kd_get {kd : ByteArray} {l : List (Nat × Int)} (h : KD kd l) {i : Nat} {r : Nat × Int} (hr : l[i]? = some r) : ∃ hi : i < kd.size, (kd[i].toNat : Int) = r.2 := by
  unfold KD at h
  have h1 := congrArg (fun t => t[i]?) h
  simp only [List.getElem?_map, hr, Option.map_some] at h1
  have hl := congrArg List.length h
  simp only [List.length_map, Array.length_toList] at hl
  have hi : i < l.length := (List.getElem?_eq_some_iff.1 hr).1
  have hk : i < kd.size := by show i < kd.data.size; omega
  refine ⟨hk, ?_⟩
  have e : kd.data.toList[i]? = some kd[i] := by
    rw [List.getElem?_eq_getElem (by simpa using hk)]
    rfl
  rw [e] at h1
  simpa using h1
theorem kd_size {kd : ByteArray} {l : List (Nat × Int)} (h : KD kd l) : kd.size = l.length := by
  have := congrArg List.length h
  simpa using this

theorem infoRCell : (Try.prog.info? 72).map (fun i => (i.zero, i.size, i.bytes)) = some (some (.agg #[.int .i64 0, .int .i64 0]), 2, 16) := by kernel_rfl

/-- Where the pen and the list are when i runs are through. -/
structure RInv (W0 : World) (A B : Nat) (x y : Int) (l : List (Nat × Int)) (i : Nat) (F : Bool) (M : Int) (v : Value) (L : List Cel) (px py : Int) (wr : World) : Prop where
  own : wr.ownsRow B 72 2 v L.length (flatC L)
  at_ : wr.heap[A]? = some (.cells #[.int .i64 px, .int .i64 py] 72 (0, 0))
  pad : Pad A B W0 wr
  len : L.length ≤ 100
theorem RInv.size {W0 : World} {A B : Nat} {x y : Int} {l : List (Nat × Int)} {i : Nat} {F : Bool} {M : Int} {v : Value} {L : List Cel} {px py : Int} {wr : World} (h : RInv W0 A B x y l i F M v L px py wr) : W0.heap.size ≤ wr.heap.size := h.pad.size

/-- The same, as the specification has it. -/
def RSpec (x y : Int) (l : List (Nat × Int)) (i : Nat) (F : Bool) (M : Int) (L : List Cel) (px py : Int) : Prop :=
  (penRun x y (l.take i)).1 = px ∧ (penRun x y (l.take i)).2.1 = py ∧ (penRun x y (l.take i)).2.2.any farS = F ∧ total (penRun x y (l.take i)).2.2 = M ∧ (M ≤ 100 → L = cellsOf (penRun x y (l.take i)).2.2)

theorem RSpec.start (x y : Int) (l : List (Nat × Int)) : RSpec x y l 0 false 0 [] x y := by
  refine ⟨?_, ?_, ?_, ?_, fun _ => ?_⟩ <;> simp [penRun, total, cellsOf]

theorem RSpec.bd {x y : Int} {l : List (Nat × Int)} {i : Nat} {F : Bool} {M : Int} {L : List Cel} {px py : Int} (h : RSpec x y l i F M L px py) (hx : -2000000000000000000 ≤ x ∧ x ≤ 2000000000000000000) (hy : -2000000000000000000 ≤ y ∧ y ≤ 2000000000000000000) (hl : l.length ≤ 1500) (hr : ∀ r ∈ l, okRun r) :
    x ≤ px ∧ px ≤ x + 15000000 ∧ y ≤ py ∧ py ≤ y + 15000000 ∧ 0 ≤ M ∧ M ≤ 15000000 := by
  obtain ⟨h1, h2, h3, h4, h5⟩ := h
  have hw := penWin_run (x := x) (y := y) (l := l.take i) (fun r hr' => hr r (List.mem_of_mem_take hr'))
  have hbd := penRun_bd (x := x) (y := y) (l := l.take i) (by omega) (by have := List.length_take_le i l; have := List.length_take_le' i l; omega) (fun r hr' => hr r (List.mem_of_mem_take hr'))
  have ht := total_bd _ hbd.2
  have hlen : (l.take i).length ≤ 1500 := by have := List.length_take_le' i l; omega
  obtain ⟨a1, a2, b1, b2, _, _, _⟩ := hw
  rw [h1] at a1 a2
  rw [h2] at b1 b2
  rw [h4] at ht
  omega

theorem RSpec.down {x y : Int} {l : List (Nat × Int)} {i : Nat} {F : Bool} {M : Int} {L : List Cel} {px py : Int} {n : Nat} (h : RSpec x y l i F M L px py) (hr : l[i]? = some (n, 36)) : RSpec x y l (i + 1) F M L x (py + n) := by
  obtain ⟨h1, h2, h3, h4, h5⟩ := h
  unfold RSpec
  rw [penRun_take hr]
  unfold penGo
  rw [if_pos rfl]
  exact ⟨rfl, by rw [h2], h3, h4, h5⟩
theorem RSpec.right {x y : Int} {l : List (Nat × Int)} {i : Nat} {F : Bool} {M : Int} {L : List Cel} {px py : Int} {n : Nat} (h : RSpec x y l i F M L px py) (hr : l[i]? = some (n, 98)) : RSpec x y l (i + 1) F M L (px + n) py := by
  obtain ⟨h1, h2, h3, h4, h5⟩ := h
  unfold RSpec
  rw [penRun_take hr]
  unfold penGo
  rw [if_neg (by simp), if_neg (by simp)]
  exact ⟨by rw [h1], h2, h3, h4, h5⟩
theorem RSpec.live {x y : Int} {l : List (Nat × Int)} {i : Nat} {F : Bool} {M : Int} {L L' : List Cel} {px py : Int} {n : Nat} (h : RSpec x y l i F M L px py) (hr : l[i]? = some (n, 111)) (hL : M + n ≤ 100 → L' = L ++ runCells px py n) :
    RSpec x y l (i + 1) (F || (farB px py || farB (px + n - 1) py)) (M + n) L' (px + n) py := by
  obtain ⟨h1, h2, h3, h4, h5⟩ := h
  unfold RSpec
  rw [penRun_take hr]
  unfold penGo
  rw [if_neg (by simp), if_pos rfl, h1, h2]
  refine ⟨rfl, rfl, ?_, ?_, ?_⟩
  · simp only [List.any_append, h3, List.any_cons, List.any_nil, Bool.or_false, farS]
  · rw [total_snoc, h4]
  · intro hm
    rw [hL hm, cellsOf_snoc, h5 (by omega)]
    simp [spanCells]

end Go.Proofs.Ytiohpcnnpmnjhaa
