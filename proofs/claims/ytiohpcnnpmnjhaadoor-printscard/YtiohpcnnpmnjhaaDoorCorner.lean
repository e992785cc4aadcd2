import Derived.Test.YtiohpcnnpmnjhaaDoorLine
import Derived.Test.YtiohpcnnpmnjhaaDoorMoved
namespace Go.Proofs.YtiohpcnnpmnjhaaDoor
open Go.RowKit Go.Shelf
set_option linter.unusedVariables false
attribute [local go_sem] Oper.semAt_some

set_option maxHeartbeats 800000 in
theorem corner_nil (cap : Nat) (w : World) (a : Option Addr) :
    Calls Tryd.prog 18 #[.slice a 0 cap] w fun e w' => e = .returned (.agg #[.int .i64 0, .int .i64 0]) ∧ Below w.heap.size w w' := by
  go_enter Tryd.func18, Tryd.ntmps18
  go_wp2
  exact bodyPost_ret (v := .agg #[.int .i64 0, .int .i64 0]) (by simp [results, Tryd.results18, go_sem]) rfl ⟨rfl, (Below.refl _ _).alloc (Nat.le_refl _) _⟩

/-- What the rounds leave: the result's place, the least so far, the iterator's boxes. -/
def CInv (w : World) (x y : Int) (v : Value) (pre : List Cel) (W : World) : Prop :=
  W.heap[w.heap.size]? = some (.cells #[.int .i64 0, .int .i64 0] 53 (0, 0)) ∧ W.heap[w.heap.size + 1]? = some (.cells #[.int .i64 (minX x pre), .int .i64 y] 53 (0, 0)) ∧
  W.heap[w.heap.size + 2]? = some (.cells #[v] 35 (0, 0)) ∧ W.heap[w.heap.size + 3]? = some (.cells #[.int .i64 0, .int .i64 0] 53 (0, 0)) ∧ Below w.heap.size w W

set_option maxRecDepth 100000 in
set_option maxHeartbeats 1600000 in
theorem corner_in (g cap : Nat) (x y : Int) (C : List Cel) (w : World) (own : w.ownsRow 0 53 2 (.slice (some ⟨g, 0, none⟩) C.length cap) C.length (flatC C)) (h : CellsAt w g C) (hg : g < w.heap.size) (hl : C.length ≤ 1000000) (hF : Fits 0 0 C) (h0 : C[0]? = some (x, y)) :
    CallsIn Fence.wide 5 Tryd.prog 18 #[.slice (some ⟨g, 0, none⟩) C.length cap] w fun e w' => e = .returned (.agg #[.int .i64 (minX x C), .int .i64 y]) ∧ Below w.heap.size w w' := by
  have hpos : 0 < C.length := by
    cases C with
    | nil => simp at h0
    | cons => simp
  have hz : ((C.length : Int) == 0) = false := by have : ¬ (C.length : Int) = 0 := by omega
                                                  simpa using this
  obtain ⟨e0, e1⟩ := h.get 0 _ h0
  simp only [Nat.zero_mul, Nat.zero_add] at e0 e1
  refine callsIn_of_wp_marks Tryd.func18 rfl trivial ?_ rfl
  simp only [Tryd.ntmps18, List.size_toArray, List.length_cons, List.length_nil, Nat.reduceAdd, Nat.reduceSub, Array.replicate_succ, Array.replicate_zero, List.push_toArray, List.append_toArray, List.nil_append, List.cons_append]
  gi_wp2_with (refine ⟨trivial, ?_⟩; gi_at_call 33; refine (callsIn_wide.2 (cells_any (some ⟨g, 0, none⟩) C.length cap _)).mono ?_; rintro e w1 ⟨rfl, rfl⟩)
  have hB2 : Below w.heap.size w ((w.alloc (.cells #[.int .i64 0, .int .i64 0] 53)).alloc (.cells #[.int .i64 x, .int .i64 y] 53)) := ((Below.refl _ _).alloc (Nat.le_refl _) _).alloc (by simp) _
  have t0 := blk_old (blk_old (blk_old (blk_new w (.cells #[.int .i64 0, .int .i64 0] 53)) (.cells #[.int .i64 x, .int .i64 y] 53)) (.cells #[.slice (some ⟨g, 0, none⟩) C.length cap] 35)) (.cells #[.int .i64 0, .int .i64 0] 53)
  have t1 := blk_old (blk_old (blk_new (w.alloc (.cells #[.int .i64 0, .int .i64 0] 53)) (.cells #[.int .i64 x, .int .i64 y] 53)) (.cells #[.slice (some ⟨g, 0, none⟩) C.length cap] 35)) (.cells #[.int .i64 0, .int .i64 0] 53)
  have t2 := blk_old (blk_new ((w.alloc (.cells #[.int .i64 0, .int .i64 0] 53)).alloc (.cells #[.int .i64 x, .int .i64 y] 53)) (.cells #[.slice (some ⟨g, 0, none⟩) C.length cap] 35)) (.cells #[.int .i64 0, .int .i64 0] 53)
  have t3 := blk_new (((w.alloc (.cells #[.int .i64 0, .int .i64 0] 53)).alloc (.cells #[.int .i64 x, .int .i64 y] 53)).alloc (.cells #[.slice (some ⟨g, 0, none⟩) C.length cap] 35)) (.cells #[.int .i64 0, .int .i64 0] 53)
  have hB4 := (hB2.alloc hB2.size (.cells #[.slice (some ⟨g, 0, none⟩) C.length cap] 35)).alloc (by simp; omega) (.cells #[.int .i64 0, .int .i64 0] 53)
  simp only [World.size_alloc, Nat.add_assoc, Nat.reduceAdd] at t0 t1 t2 t3
  refine wpIn_rangeFunc_ownH (encs := encC) (N := C.length) (S := fun xs : List Cel => xs = C.map (sh 0 0)) (Sp := fun _ => True) (Kp := Kp2 w.heap.size (w.heap.size + 2)) rfl (by omega) (gf := 54) (lb := #[.pointer (some ⟨w.heap.size + 2, 0, none⟩), .pointer (some ⟨w.heap.size + 3, 0, none⟩)]) rfl trivial (enters_of Tryd.func54 (by kernel_rfl) rfl) ?seq Kp2.trans ?kb (Below.refl _ _) (fun _ => rfl)
    (CInv w x y (.slice (some ⟨g, 0, none⟩) C.length cap))
    (fun _ _ _ => False) ?hI (fun _ _ _ _ _ h _ _ => h) ?h0
    (fun c a' W => ∃ Bx, W.heap[Bx]? = some (.cells #[.int .i64 c.1, .int .i64 c.2] 53 (0, 0)) ∧ Bx ≠ w.heap.size + 1 ∧ a' = { tmps := #[.slice (some ⟨g, 0, none⟩) C.length cap, undef, .pointer (some ⟨w.heap.size, 0, none⟩), .pointer (some ⟨w.heap.size + 1, 0, none⟩), .pointer (some ⟨Bx, 0, none⟩), .slice (some ⟨g, 0, none⟩) C.length cap, .int .i64 (C.length : Int), .bool false, undef, .slice (some ⟨g, 0, none⟩) C.length cap, .pointer (some ⟨g, 0, none⟩), .agg #[.int .i64 x, .int .i64 y], .slice (some ⟨g, 0, none⟩) C.length cap, .func (.func 54) #[] #[.pointer (some ⟨w.heap.size + 2, 0, none⟩), .pointer (some ⟨w.heap.size + 3, 0, none⟩)], .agg #[.int .i64 c.1, .int .i64 c.2], undef, undef, undef, undef, undef, undef, undef], defers := [] }) ?hAx ?assign ?body ?done ?stop
  case seq => exact moved_stops 4 (by omega) (some ⟨g, 0, none⟩) cap (w.heap.size + 2) w.heap.size 0 0 C w _ own hl hF rfl hB4 t2 t3
  case kb =>
    intro W l o o' hlt hl2 ho hw
    have hsz : w.heap.size + 4 ≤ l := by simpa using hlt
    exact ⟨belowK_b (n₀ := w.heap.size) (w := w) (Nat.le_refl _) W l o o' (by omega) hl2 ho hw, World.putObj_heap_other (by omega), World.putObj_heap_other (by omega)⟩
  case hI =>
    rintro pre W W' row ⟨h1, h2, h3, h4, hB⟩ hg hr
    exact ⟨keepc h1 hg hr, keepc h2 hg hr, keepc h3 hg hr, keepc h4 hg hr, keepw hB (Nat.le_refl _) (by simp; omega) hg hr⟩
  case h0 => exact ⟨t0, by simpa [minX] using t1, t2, t3, hB4⟩
  case hAx =>
    rintro c a' _ W W' row ⟨Bx, hx, hne, ha⟩ hg hr
    exact ⟨Bx, keepc hx hg hr, hne, ha⟩
  case assign =>
    rintro l pre c W K ⟨h1, h2, h3, h4, hB⟩ hK
    simp only [encC]
    gi_wp2
    exact hK _ _ ((KeepsOthers.alloc _ _).from _) ⟨(Below.refl _ W).alloc hB.size _, Below.heap_alloc W _ _ (blk_lt h3), Below.heap_alloc W _ _ (blk_lt h4)⟩ ⟨blk_old h1 _, blk_old h2 _, blk_old h3 _, blk_old h4 _, hB.alloc hB.size _⟩ ⟨W.heap.size, blk_new W _, by have := blk_lt h2; omega, rfl⟩
  case body =>
    rintro l pre ⟨px, py⟩ a' W hl0 hlr ⟨h1, h2, h3, h4, hB⟩ ⟨Bx, ex, hne, rfl⟩ hpl
    have q0 := cell_of h2 0
    have q1 := cell_of h2 1
    have qx0 := cell_of ex 0
    have qx1 := cell_of ex 1
    have z0 := frz_of h2 0
    have n1 : ¬ w.heap.size = w.heap.size + 1 := by omega
    have n2 : ¬ w.heap.size + 2 = w.heap.size + 1 := by omega
    have n3 : ¬ w.heap.size + 3 = w.heap.size + 1 := by omega
    obtain ⟨m, hm⟩ : ∃ m, minX x pre = m := ⟨_, rfl⟩
    rw [hm] at h2 q0
    simp only at ex qx0 qx1
    gi_wp2
    have h3' := blk_set (a := ⟨w.heap.size + 1, 0, none⟩) h3 n2 (.int .i64 (min m px))
    have h4' := blk_set (a := ⟨w.heap.size + 1, 0, none⟩) h4 n3 (.int .i64 (min m px))
    have hB' := hB.setCell (p := ⟨w.heap.size + 1, 0, none⟩) (by show w.heap.size ≤ w.heap.size + 1; omega) (.int .i64 (min m px))
    refine ⟨(KeepsOthers.setCell W ⟨w.heap.size + 1, 0, none⟩ (.int .i64 (min m px))).from _, ⟨(Below.refl _ W).setCell (p := ⟨w.heap.size + 1, 0, none⟩) (by show w.heap.size ≤ w.heap.size + 1; omega) _, h3'.trans h3.symm, h4'.trans h4.symm⟩, ?_⟩
    refine ⟨blk_set (a := ⟨w.heap.size + 1, 0, none⟩) h1 n1 _, ?_, h3', h4', hB'⟩
    rw [minX_snoc, hm]
    exact blk_put (j := 0) h2 _
  case done =>
    rintro D xs W hD hS ⟨h1, h2, h3, h4, hB⟩ hK
    rw [hS, sh_zero, List.map_id] at h2
    have q0 := cell_of h2 0
    have q1 := cell_of h2 1
    have y0 := cell_of h1 0
    have y1 := cell_of h1 1
    have x0 := frz_of h1 0
    have x1 := frz_of h1 1
    obtain ⟨m, hm⟩ : ∃ m, minX x C = m := ⟨_, rfl⟩
    rw [hm] at h2 q0
    have HM : Hid (minX x C = m) := hm
    clear hm
    gi_wp2
    have hDl : w.heap.size + 4 ≤ D := by simpa using hD
    have rF : ((W.setCell ⟨w.heap.size, 0, none⟩ (.int .i64 m)).setCell ⟨w.heap.size, 1, none⟩ (.int .i64 y)).heap[w.heap.size]? = some (.cells #[.int .i64 m, .int .i64 y] 53 (0, 0)) := blk_put (j := 1) (blk_put (j := 0) h1 _) _
    have hKD : ((W.setCell ⟨w.heap.size, 0, none⟩ (.int .i64 m)).setCell ⟨w.heap.size, 1, none⟩ (.int .i64 y)).heap[D]? = some (.deferred (some [])) := blk_set (a := ⟨w.heap.size, 1, none⟩) (blk_set (a := ⟨w.heap.size, 0, none⟩) hK (by show D ≠ w.heap.size; omega) _) (by show D ≠ w.heap.size; omega) _
    have hBe : Below w.heap.size w ((W.setCell ⟨w.heap.size, 0, none⟩ (.int .i64 m)).setCell ⟨w.heap.size, 1, none⟩ (.int .i64 y)) := (hB.setCell (p := ⟨w.heap.size, 0, none⟩) (Nat.le_refl _) _).setCell (p := ⟨w.heap.size, 1, none⟩) (Nat.le_refl _) _
    obtain ⟨W2, hW2⟩ : ∃ W2, ((W.setCell ⟨w.heap.size, 0, none⟩ (.int .i64 m)).setCell ⟨w.heap.size, 1, none⟩ (.int .i64 y)) = W2 := ⟨_, rfl⟩
    rw [hW2] at rF hKD hBe ⊢
    refine ⟨by simp, .inl ⟨_, _, rfl, run_takeDeferred hKD, ?_⟩⟩
    have rG : (W2.putObj D (.deferred none)).heap[w.heap.size]? = some (.cells #[.int .i64 m, .int .i64 y] 53 (0, 0)) := (World.putObj_heap_other (by omega)).trans rF
    have g0 := cell_of rG 0
    have g1 := cell_of rG 1
    refine ⟨.agg #[.int .i64 m, .int .i64 y], by simp [results, Tryd.results18, go_sem, g0, g1], by rw [HM.out], hBe.trans (belowK_b (n₀ := w.heap.size) (w := w) (Nat.le_refl _) W2 D _ _ (by omega) hKD rfl rfl)⟩
  case stop =>
    intro D c pre W hD hs hx
    exact hx.elim

theorem corner_any (B : Nat) (v : Value) (C : List Cel) (w : World) (h : w.ownsRow B 53 2 v C.length (flatC C)) (hl : C.length ≤ 1000000) (hF : Fits 0 0 C) :
    Calls Tryd.prog 18 #[v] w fun e w' => e = .returned (.agg #[.int .i64 (cornP C).1, .int .i64 (cornP C).2]) ∧ Below w.heap.size w w' := by
  have h' := ownsRow_mono h (Nat.zero_le B)
  rcases cells_cases h with ⟨rfl, rfl⟩ | ⟨g, cap, rfl, hS, hg⟩
  · exact corner_nil 0 w none
  · cases C with
    | nil => exact corner_nil cap w _
    | cons c r =>
      obtain ⟨x, y⟩ := c
      exact callsIn_wide.1 (corner_in g cap x y ((x, y) :: r) w h' hS hg hl hF (by simp))

end Go.Proofs.YtiohpcnnpmnjhaaDoor
