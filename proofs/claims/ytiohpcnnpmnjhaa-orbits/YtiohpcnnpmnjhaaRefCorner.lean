import Derived.Test.YtiohpcnnpmnjhaaCellRow
import Derived.Deep.Cut
import Derived.Deep.RegionWith
namespace Go.Proofs.Ytiohpcnnpmnjhaa
open Go.RowKit
set_option linter.unusedVariables false

set_option maxHeartbeats 800000 in
theorem rcorner_nil (cap : Nat) (w : World) (a : Option Addr) :
    Calls Try.prog 37 #[.slice a 0 cap] w fun e w' => e = .returned (.agg #[.int .i64 0, .int .i64 0]) ∧ Below w.heap.size w w' := by
  go_enter Try.func37, Try.ntmps37
  go_wp2
  exact bodyPost_ret (v := .agg #[.int .i64 0, .int .i64 0]) (by simp [results, Try.results37, go_sem]) rfl ⟨rfl, (Below.refl _ _).alloc (Nat.le_refl _) _⟩

set_option maxHeartbeats 1600000 in
theorem rcorner_row (g cap : Nat) (x y : Int) (C : List Cel) (w : World) (h : CellsAt w g C) (hg : g < w.heap.size) (hl : C.length ≤ 1000000) (h0 : C[0]? = some (x, y)) (hy : ∀ c ∈ C, y ≤ c.2) :
    Calls Try.prog 37 #[.slice (some ⟨g, 0, none⟩) C.length cap] w fun e w' => e = .returned (.agg #[.int .i64 (minX x C), .int .i64 y]) ∧ Below w.heap.size w w' := by
  have hpos : 0 < C.length := by
    cases C with
    | nil => simp at h0
    | cons => simp
  have hz : ((C.length : Int) == 0) = false := by have : ¬ (C.length : Int) = 0 := by omega
                                                  simpa using this
  obtain ⟨e0, e1⟩ := h.get 0 _ h0
  simp only [Nat.zero_mul, Nat.zero_add] at e0 e1
  go_enter Try.func37, Try.ntmps37
  go_wp2
  go_loopw [4] (fun i wr => ∃ k : Nat, k ≤ C.length ∧ i = .int .i64 k ∧ Below w.heap.size w wr ∧ wr.heap[w.heap.size]? = some (.cells #[.int .i64 0, .int .i64 0] 72 (0, 0)) ∧ wr.heap[w.heap.size + 1]? = some (.cells #[.int .i64 (minX x (C.take k)), .int .i64 y] 72 (0, 0))) (fun i _ => C.length - (intOf i).toNat)
  case atStart =>
    refine ⟨0, Nat.zero_le _, rfl, ((Below.refl _ _).alloc (Nat.le_refl _) _).alloc (by simp) _, ?_, ?_⟩
    · exact blk_old (blk_new w _) _
    · have := blk_new (w.alloc (.cells #[.int .i64 0, .int .i64 0] 72)) (.cells #[.int .i64 x, .int .i64 y] 72)
      simpa [minX] using this
  case round =>
    obtain ⟨k, hk, rfl, hb, b0, b1⟩ := hrel
    have c0 := cell_of b1 0
    have c1 := cell_of b1 1
    have f0 := frz_of b1 0
    have n01 : ¬ w.heap.size = w.heap.size + 1 := by omega
    by_cases hlt : k < C.length
    · obtain ⟨⟨x', y'⟩, hs⟩ : ∃ s, C[k]? = some s := ⟨C[k], by simp [hlt]⟩
      obtain ⟨d0, d1⟩ := (h.below hb hg).get k _ hs
      simp only at d0 d1
      have hyy := hy (x', y') (List.mem_of_getElem? hs)
      simp only at hyy
      have hyd : decide (y' < y) = false := by simp; omega
      have hM : minX x (C.take (k + 1)) = min (minX x (C.take k)) x' := by rw [List.take_add_one, hs]; exact minX_snoc _ _ _
      obtain ⟨m, hm⟩ : ∃ m, minX x (C.take k) = m := ⟨_, rfl⟩
      rw [hm] at hM b1 c0
      have HM : Hid (minX x (C.take (k + 1)) = min m x') := hM
      have hgl : ¬ g = w.heap.size + 1 := by omega
      clear hM hs hm hy hyy
      by_cases hx : x' < m
      · have hxd : decide (x' < m) = true := by simpa using hx
        go_wp2
        go_quiet (fail)
        go_wp2
        go_quiet (fail)
        go_wp2
        go_roundw
        case rel =>
          refine ⟨k + 1, by omega, by go_num, (below_drewN ((below_drewN hb _).setCell (p := ⟨w.heap.size + 1, 0, none⟩) (Nat.le_succ _) _) _), ?_, ?_⟩
          · exact blk_set (a := ⟨w.heap.size + 1, 0, none⟩) (W := wr.drewN _) b0 n01 _
          · rw [HM.out, show min m x' = x' by omega]
            exact blk_put (W := wr.drewN _) (j := 0) b1 _
        case measure => simp [intOf]; omega
      · have hxd : decide (x' < m) = false := by simpa using hx
        go_wp2
        go_quiet (fail)
        go_wp2
        go_quiet (fail)
        go_wp2
        go_roundw
        case rel =>
          refine ⟨k + 1, by omega, by go_num, below_drewN hb _, b0, ?_⟩
          rw [HM.out, show min m x' = m by omega]
          exact b1
        case measure => simp [intOf]; omega
    · have hk' : k = C.length := by omega
      subst hk'
      rw [List.take_length] at c0
      have a0 := cell_of b0 0
      have a1 := cell_of b0 1
      have g0 := frz_of b0 0
      have g1 := frz_of b0 1
      go_wp2
      have rF : ((wr.setCell ⟨w.heap.size, 0, none⟩ (.int .i64 (minX x C))).setCell ⟨w.heap.size, 1, none⟩ (.int .i64 y)).heap[w.heap.size]? = some (.cells #[.int .i64 (minX x C), .int .i64 y] 72 (0, 0)) := blk_put (j := 1) (blk_put (j := 0) b0 _) _
      have k0 := cell_of rF 0
      have k1 := cell_of rF 1
      exact bodyPost_ret (v := .agg #[.int .i64 (minX x C), .int .i64 y]) (by simp [results, Try.results37, go_sem, k0, k1]) rfl ⟨rfl, (hb.setCell (p := ⟨w.heap.size, 0, none⟩) (Nat.le_refl _) _).setCell (p := ⟨w.heap.size, 1, none⟩) (Nat.le_refl _) _⟩

theorem asc_first {x y : Int} {r : List Cel} (h : Asc ((x, y) :: r)) : ∀ c ∈ (x, y) :: r, y ≤ c.2 := by
  intro c hc
  rcases List.mem_cons.1 hc with rfl | hc
  · exact Int.le_refl _
  · rcases (List.pairwise_cons.1 h).1 c hc with h1 | ⟨h1, _⟩
    · simp only at h1; omega
    · simp only at h1; omega

theorem rcorner_any (B : Nat) (v : Value) (C : List Cel) (w : World) (h : w.ownsRow B 72 2 v C.length (flatC C)) (hl : C.length ≤ 1000000) (ha : Asc C) :
    Calls Try.prog 37 #[v] w fun e w' => e = .returned (.agg #[.int .i64 (cornP C).1, .int .i64 (cornP C).2]) ∧ Below w.heap.size w w' := by
  rcases cells_cases h with ⟨rfl, rfl⟩ | ⟨g, cap, rfl, hS, hg⟩
  · exact rcorner_nil 0 w none
  · cases C with
    | nil => exact rcorner_nil cap w _
    | cons c r =>
      obtain ⟨x, y⟩ := c
      exact rcorner_row g cap x y ((x, y) :: r) w hS hg hl (by simp) (asc_first ha)

end Go.Proofs.Ytiohpcnnpmnjhaa
