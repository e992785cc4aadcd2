import Derived.Test.YtiohpcnnpmnjhaaGreatDoorCellRow
import Derived.Deep.Cut
import Derived.Deep.RegionWith
import Derived.Test.YtiohpcnnpmnjhaaGreatDoorLfaM
import Derived.Test.YtiohpcnnpmnjhaaGreatDoorTokM
namespace Go.Proofs.YtiohpcnnpmnjhaaGreatDoor
open Go.RowKit
set_option linter.unusedVariables false

set_option maxHeartbeats 800000 in
theorem rcorner_nil (cap : Nat) (w : World) (a : Option Addr) :
    Calls Tryz.prog 46 #[.slice a 0 cap] w fun e w' => e = .returned (.agg #[.int .i64 0, .int .i64 0]) ∧ Below w.heap.size w w' := by
  go_enter Tryz.func46, Tryz.ntmps46
  go_wp2
  exact bodyPost_ret (v := .agg #[.int .i64 0, .int .i64 0]) (by simp [results, Tryz.results46, go_sem]) rfl ⟨rfl, (Below.refl _ _).alloc (Nat.le_refl _) _⟩

set_option maxHeartbeats 1600000 in
theorem rcorner_row (g cap : Nat) (x y : Int) (C : List Cel) (w : World) (h : CellsAt w g C) (hg : g < w.heap.size) (hl : C.length ≤ 1000000) (h0 : C[0]? = some (x, y)) (hy : ∀ c ∈ C, y ≤ c.2) :
    Calls Tryz.prog 46 #[.slice (some ⟨g, 0, none⟩) C.length cap] w fun e w' => e = .returned (.agg #[.int .i64 (minX x C), .int .i64 y]) ∧ Below w.heap.size w w' := by
  have hpos : 0 < C.length := by
    cases C with
    | nil => simp at h0
    | cons => simp
  have hz : ((C.length : Int) == 0) = false := by have : ¬ (C.length : Int) = 0 := by omega
                                                  simpa using this
  obtain ⟨e0, e1⟩ := h.get 0 _ h0
  simp only [Nat.zero_mul, Nat.zero_add] at e0 e1
  go_enter Tryz.func46, Tryz.ntmps46
  go_wp2
  go_loopw [4] (fun i wr => ∃ k : Nat, k ≤ C.length ∧ i = .int .i64 k ∧ Below w.heap.size w wr ∧ wr.heap[w.heap.size]? = some (.cells #[.int .i64 0, .int .i64 0] 44 (0, 0)) ∧ wr.heap[w.heap.size + 1]? = some (.cells #[.int .i64 (minX x (C.take k)), .int .i64 y] 44 (0, 0))) (fun i _ => C.length - (intOf i).toNat)
  case atStart =>
    refine ⟨0, Nat.zero_le _, rfl, ((Below.refl _ _).alloc (Nat.le_refl _) _).alloc (by simp) _, ?_, ?_⟩
    · exact blk_old (blk_new w _) _
    · have := blk_new (w.alloc (.cells #[.int .i64 0, .int .i64 0] 44)) (.cells #[.int .i64 x, .int .i64 y] 44)
      simpa [minX] using this
  case round =>
    obtain ⟨k, hk, rfl, hb, b0, b1⟩ := hrel
    have c0 := cell_of b1 0
    have c1 := cell_of b1 1
    have f0 := frz_of b1 0
    have n01 : ¬ w.heap.size = w.heap.size + 1 := by omega
    by_cases hlt : k < C.length
    · obtain ⟨⟨x', y'⟩, hs⟩ : ∃ s, C[k]? = some s := ⟨C[k], by simp [hlt]⟩
      obtain ⟨d0, d1⟩ := (h.below hb hg).get k _ hs
      simp only at d0 d1
      have hyy := hy (x', y') (List.mem_of_getElem? hs)
      simp only at hyy
      have hyd : decide (y' < y) = false := by simp; omega
      have hM : minX x (C.take (k + 1)) = min (minX x (C.take k)) x' := by rw [List.take_add_one, hs]; exact minX_snoc _ _ _
      obtain ⟨m, hm⟩ : ∃ m, minX x (C.take k) = m := ⟨_, rfl⟩
      rw [hm] at hM b1 c0
      have HM : Hid (minX x (C.take (k + 1)) = min m x') := hM
      have hgl : ¬ g = w.heap.size + 1 := by omega
      clear hM hs hm hy hyy
      by_cases hx : x' < m
      · have hxd : decide (x' < m) = true := by simpa using hx
        go_wp2
        go_quiet (fail)
        go_wp2
        go_quiet (fail)
        go_wp2
        go_roundw
        case rel =>
          refine ⟨k + 1, by omega, by go_num, (below_drewN ((below_drewN hb _).setCell (p := ⟨w.heap.size + 1, 0, none⟩) (Nat.le_succ _) _) _), ?_, ?_⟩
          · exact blk_set (a := ⟨w.heap.size + 1, 0, none⟩) (W := wr.drewN _) b0 n01 _
          · rw [HM.out, show min m x' = x' by omega]
            exact blk_put (W := wr.drewN _) (j := 0) b1 _
        case measure => simp [intOf]; omega
      · have hxd : decide (x' < m) = false := by simpa using hx
        go_wp2
        go_quiet (fail)
        go_wp2
        go_quiet (fail)
        go_wp2
        go_roundw
        case rel =>
          refine ⟨k + 1, by omega, by go_num, below_drewN hb _, b0, ?_⟩
          rw [HM.out, show min m x' = m by omega]
          exact b1
        case measure => simp [intOf]; omega
    · have hk' : k = C.length := by omega
      subst hk'
      rw [List.take_length] at c0
      have a0 := cell_of b0 0
      have a1 := cell_of b0 1
      have g0 := frz_of b0 0
      have g1 := frz_of b0 1
      go_wp2
      have rF : ((wr.setCell ⟨w.heap.size, 0, none⟩ (.int .i64 (minX x C))).setCell ⟨w.heap.size, 1, none⟩ (.int .i64 y)).heap[w.heap.size]? = some (.cells #[.int .i64 (minX x C), .int .i64 y] 44 (0, 0)) := blk_put (j := 1) (blk_put (j := 0) b0 _) _
      have k0 := cell_of rF 0
      have k1 := cell_of rF 1
      exact bodyPost_ret (v := .agg #[.int .i64 (minX x C), .int .i64 y]) (by simp [results, Tryz.results46, go_sem, k0, k1]) rfl ⟨rfl, (hb.setCell (p := ⟨w.heap.size, 0, none⟩) (Nat.le_refl _) _).setCell (p := ⟨w.heap.size, 1, none⟩) (Nat.le_refl _) _⟩

theorem asc_first {x y : Int} {r : List Cel} (h : Asc ((x, y) :: r)) : ∀ c ∈ (x, y) :: r, y ≤ c.2 := by
  intro c hc
  rcases List.mem_cons.1 hc with rfl | hc
  · exact Int.le_refl _
  · rcases (List.pairwise_cons.1 h).1 c hc with h1 | ⟨h1, _⟩
    · simp only at h1; omega
    · simp only at h1; omega

theorem rcorner_any (B : Nat) (v : Value) (C : List Cel) (w : World) (h : w.ownsRow B 44 2 v C.length (flatC C)) (hl : C.length ≤ 1000000) (ha : Asc C) :
    Calls Tryz.prog 46 #[v] w fun e w' => e = .returned (.agg #[.int .i64 (cornP C).1, .int .i64 (cornP C).2]) ∧ Below w.heap.size w w' := by
  rcases cells_cases h with ⟨rfl, rfl⟩ | ⟨g, cap, rfl, hS, hg⟩
  · exact rcorner_nil 0 w none
  · cases C with
    | nil => exact rcorner_nil cap w _
    | cons c r =>
      obtain ⟨x, y⟩ := c
      exact rcorner_row g cap x y ((x, y) :: r) w hS hg hl (by simp) (asc_first ha)

end Go.Proofs.YtiohpcnnpmnjhaaGreatDoor

namespace Go.Proofs.YtiohpcnnpmnjhaaGreatDoor
open Go.RowKit
set_option linter.unusedVariables false

set_option maxRecDepth 100000 in
set_option maxHeartbeats 1600000 in
theorem rmoved_any (v : Value) (C : List Cel) (dx dy : Int) (w : World) (h : RowAt w v C) (hl : C.length ≤ 1000000) (hF : Fits dx dy C) :
    Calls Tryz.prog 25 #[v, .int .i64 dx, .int .i64 dy] w fun e w' => (∃ v', e = .returned v' ∧ w'.ownsRow w.heap.size 44 2 v' (C.map (sh dx dy)).length (flatC (C.map (sh dx dy)))) ∧ Below w.heap.size w w' := by
  obtain ⟨ad, cp, rfl⟩ := h.slice
  obtain ⟨i0, hi0, hz0, hz1, hz2⟩ := info_parts infoRC
  go_enter Tryz.func25, Tryz.ntmps25
  go_wp2
  go_loopw [7, 8] (fun vo vi wr => ∃ k : Nat, k ≤ C.length ∧ vi = .int .i64 (k : Int) ∧ wr.ownsRow w.heap.size 44 2 vo ((C.take k).map (sh dx dy)).length (flatC ((C.take k).map (sh dx dy))) ∧ Below w.heap.size w wr) (fun _ vi _ => C.length - (intOf vi).toNat)
  case atStart => exact ⟨0, Nat.zero_le _, rfl, World.ownsRow_nil _ _ _ _, Below.refl _ _⟩
  case round =>
    obtain ⟨k, hk, rfl, own, hb⟩ := hrel
    by_cases hlt : k < C.length
    · have hdc : decide ((k : Int) < (C.length : Int)) = true := decide_eq_true (by omega)
      obtain ⟨⟨x, y⟩, hs⟩ : ∃ s, C[k]? = some s := ⟨C[k], by simp [hlt]⟩
      obtain ⟨g, rfl, hg, hget⟩ := h.get hs
      obtain ⟨d0, d1⟩ := hget wr hb
      have hf := hF (x, y) (List.mem_of_getElem? hs)
      simp only at d0 d1 hf
      have HT : Hid ((C.take (k + 1)).map (sh dx dy) = (C.take k).map (sh dx dy) ++ [(x + dx, y + dy)]) := by
        show _ = _
        rw [List.take_add_one, hs]; simp [sh]
      have hM : ((C.take k).map (sh dx dy)).length ≤ k := by rw [List.length_map]; exact List.length_take_le k C
      obtain ⟨M, hMe⟩ : ∃ M, (C.take k).map (sh dx dy) = M := ⟨_, rfl⟩
      rw [hMe] at own HT hM
      have w1 : IntKind.i64.wrap (x + dx) = x + dx := IntWalk.i64_in _ ⟨by omega, by omega⟩
      have w2 : IntKind.i64.wrap (y + dy) = y + dy := IntWalk.i64_in _ ⟨by omega, by omega⟩
      have hgl : g < wr.heap.size := by have := hb.size; omega
      have hsz := hb.size
      clear hs hMe
      go_wp2
      go_region_law (refine step_append_own rfl (.tmp 15) (.tmp 31) 25 rfl w.heap.size 44 i0 (.agg #[.int .i64 0, .int .i64 0]) 2 16 Tryz.underlying25 hi0 hz0 hz1 hz2 rfl (by decide) u7 M.length (flatC M) (by simp [Act.eval]) (own.alloc _) ⟨wr.heap.size, 0, none⟩ 1 1 [.int .i64 (x + dx), .int .i64 (y + dy)] (by simp [Act.eval]) rfl (cell_two_new _ _ _ _) (by simp [Value.oneCell']) (by unfold maxLen; omega) (by omega) (by simp; omega) ?_; intro v' w1 own1 hg1)
      all_goals
        go_wp2
        go_roundw
        case rel =>
          have hb1 : Below w.heap.size w w1 := ((hb.alloc hb.size _).drew).grown hg1 (by simp; omega) (fun k hk => (own.lt k hk).1)
          refine ⟨k + 1, by omega, by go_num, ?_, hb1⟩
          rw [HT.out, flatC_one, List.length_append]
          exact own1
        case measure => simp [intOf]; omega
    · have hdc : decide ((k : Int) < (C.length : Int)) = false := decide_eq_false (by omega)
      obtain rfl : k = C.length := by omega
      rw [List.take_length] at own
      go_wp2
      go_ret
      exact ⟨⟨_, rfl, own⟩, hb⟩

set_option maxRecDepth 100000 in
set_option maxHeartbeats 1600000 in
theorem same_any (v u : Value) (A B : List Cel) (w : World) (h : RowAt w v A) (h2 : RowAt w u B) (hl : A.length ≤ 1000000) (hl2 : B.length ≤ 1000000) :
    Calls Tryz.prog 54 #[v, u] w fun e w' => e = .returned (.bool (decide (A = B))) ∧ Below w.heap.size w w' := by
  obtain ⟨ad, cp, rfl⟩ := h.slice
  obtain ⟨ae, cq, rfl⟩ := h2.slice
  have heq := fun a b c d w => eqIn_rcell a b c d w
  have hnot : ∀ (x : Bool) (w : World), (Op.unary .not (.bool x)).run Tryz.prog w = .ok (.bool (!x)) w := fun _ _ => rfl
  by_cases hn : A.length = B.length
  rotate_left
  · have hq : ((A.length : Int) == (B.length : Int)) = false := by simp; omega
    have hq2 : ((A.length : Int) != (B.length : Int)) = true := by simp [bne, hq]
    have hq3 : ¬ (A.length : Int) = (B.length : Int) := by omega
    have HM : Hid (decide (A = B) = false) := decide_eq_false (by rintro rfl; exact hn rfl)
    go_enter Tryz.func54, Tryz.ntmps54
    go_wp2
    go_ret
    exact ⟨ret_bool (a := false) HM.out.symm, Below.refl _ _⟩
  rw [← hn]
  have HN : Hid (A.length = B.length) := hn
  clear hn
  go_enter Tryz.func54, Tryz.ntmps54
  go_wp2
  go_loopw [5] (fun i wr => ∃ k : Nat, k ≤ A.length ∧ i = .int .i64 k ∧ Below w.heap.size w wr ∧ Hid (A.take k = B.take k)) (fun i _ => A.length - (intOf i).toNat)
  case atStart => exact ⟨0, Nat.zero_le _, rfl, Below.refl _ _, by simp [Hid]⟩
  case round =>
    obtain ⟨k, hk, rfl, hb, hT⟩ := hrel
    by_cases hlt : k < A.length
    · have hdc : decide ((k : Int) < (A.length : Int)) = true := decide_eq_true (by omega)
      obtain ⟨⟨x, y⟩, hs⟩ : ∃ s, A[k]? = some s := ⟨A[k], by simp [hlt]⟩
      obtain ⟨⟨x', y'⟩, hs'⟩ : ∃ s, B[k]? = some s := ⟨B[k]'(by rw [← HN.out]; exact hlt), by simp⟩
      obtain ⟨g, rfl, hg, hget⟩ := h.get hs
      obtain ⟨g', rfl, hg', hget'⟩ := h2.get hs'
      obtain ⟨d0, d1⟩ := hget wr hb
      obtain ⟨e0, e1⟩ := hget' wr hb
      simp only at d0 d1 e0 e1
      by_cases he : x = x' ∧ y = y'
      · obtain ⟨rfl, rfl⟩ := he
        have HT : Hid (A.take (k + 1) = B.take (k + 1)) := by
          show _ = _
          rw [List.take_add_one, List.take_add_one, hs, hs', hT.out]
        clear hs hs' hT
        go_wp2
        go_quiet (fail)
        go_wp2
        go_roundw
        case rel => exact ⟨k + 1, by omega, by go_num, below_drewN hb _, HT⟩
        case measure => simp [intOf]; omega
      · have hne : (x == x' && y == y') = false := by simpa using he
        have HM : Hid (decide (A = B) = false) := decide_eq_false (by
          intro e
          rw [e, hs'] at hs
          cases hs
          exact he ⟨rfl, rfl⟩)
        clear hs hs' hT he
        go_wp2
        go_quiet (fail)
        go_wp2
        go_ret
        exact ⟨ret_bool (a := false) HM.out.symm, below_drewN hb _⟩
    · have hdc : decide ((k : Int) < (A.length : Int)) = false := decide_eq_false (by omega)
      obtain rfl : k = A.length := by omega
      have HM : Hid (decide (A = B) = true) := decide_eq_true (by
        have := hT.out
        rw [List.take_length, HN.out, List.take_length] at this
        exact this)
      go_wp2
      go_ret
      exact ⟨ret_bool (a := true) HM.out.symm, hb⟩

end Go.Proofs.YtiohpcnnpmnjhaaGreatDoor

namespace Go.Proofs.YtiohpcnnpmnjhaaGreatDoor
open Go.RowKit
set_option linter.unusedVariables false

/-- By how much A must be moved to be B, if that can be. -/
def wayD (A B : List Cel) : Cel := ((cornP B).1 - (cornP A).1, (cornP B).2 - (cornP A).2)
def wayB (A B : List Cel) : Bool := decide (A.map (sh (wayD A B).1 (wayD A B).2) = B)

theorem rcornerAt (v : Value) (C : List Cel) (w : World) (h : RowAt w v C) (hl : C.length ≤ 1000000) (ha : Asc C) :
    Calls Tryz.prog 46 #[v] w fun e w' => e = .returned (.agg #[.int .i64 (cornP C).1, .int .i64 (cornP C).2]) ∧ Below w.heap.size w w' := by
  rcases h with ⟨rfl, rfl⟩ | ⟨g, cap, rfl, hS, hg⟩
  · exact rcorner_nil 0 w none
  · cases C with
    | nil => exact rcorner_nil cap w _
    | cons c r =>
      obtain ⟨x, y⟩ := c
      exact rcorner_row g cap x y ((x, y) :: r) w hS hg hl (by simp) (asc_first ha)

set_option maxRecDepth 100000 in
set_option maxHeartbeats 1600000 in
theorem way_any (v u : Value) (A B : List Cel) (w : World) (h : RowAt w v A) (h2 : RowAt w u B) (hl : A.length ≤ 1000000) (hl2 : B.length ≤ 1000000) (ha : Asc A) (hb : Asc B)
    (hF : Fits (wayD A B).1 (wayD A B).2 A) (hx : -9000000000000000000 ≤ (wayD A B).1 ∧ (wayD A B).1 ≤ 9000000000000000000) (hy : -9000000000000000000 ≤ (wayD A B).2 ∧ (wayD A B).2 ≤ 9000000000000000000) :
    Calls Tryz.prog 23 #[v, u] w fun e w' => e = .returned (.tuple #[.agg #[.int .i64 (wayD A B).1, .int .i64 (wayD A B).2], .bool (wayB A B)]) ∧ Below w.heap.size w w' := by
  have hcA := fun W (hR : RowAt W v A) => rcornerAt v A W hR (by omega) ha
  have hcB := fun W (hR : RowAt W u B) => rcornerAt u B W hR (by omega) hb
  have hM := fun W (hR : RowAt W v A) => rmoved_any v A (wayD A B).1 (wayD A B).2 W hR hl hF
  have hdx : (cornP B).1 - (cornP A).1 = (wayD A B).1 := rfl
  have hdy : (cornP B).2 - (cornP A).2 = (wayD A B).2 := rfl
  have HB : Hid (wayB A B = decide (A.map (sh (wayD A B).1 (wayD A B).2) = B)) := rfl
  obtain ⟨dx, hdxe⟩ : ∃ dx, (wayD A B).1 = dx := ⟨_, rfl⟩
  obtain ⟨dy, hdye⟩ : ∃ dy, (wayD A B).2 = dy := ⟨_, rfl⟩
  obtain ⟨ax, hax⟩ : ∃ ax, (cornP A).1 = ax := ⟨_, rfl⟩
  obtain ⟨ay, hay⟩ : ∃ ay, (cornP A).2 = ay := ⟨_, rfl⟩
  obtain ⟨bx, hbx⟩ : ∃ bx, (cornP B).1 = bx := ⟨_, rfl⟩
  obtain ⟨bY, hbY⟩ : ∃ bY, (cornP B).2 = bY := ⟨_, rfl⟩
  rw [hax, hbx, hdxe] at hdx
  rw [hay, hbY, hdye] at hdy
  rw [hdxe, hdye] at HB
  rw [hdxe] at hx
  rw [hdye] at hy
  simp only [hax, hay] at hcA
  simp only [hbx, hbY] at hcB
  simp only [hdxe, hdye] at hM
  rw [hdxe, hdye]
  have w1 : IntKind.i64.wrap (bx - ax) = dx := by rw [hdx]; exact IntWalk.i64_in _ ⟨by omega, by omega⟩
  have w2 : IntKind.i64.wrap (bY - ay) = dy := by rw [hdy]; exact IntWalk.i64_in _ ⟨by omega, by omega⟩
  have hd0 := hdx
  have hd1 := hdy
  clear hdxe hdye hax hay hbx hbY hF hdx hdy
  have hS := fun W m (hR : RowAt W m (A.map (sh dx dy))) (hR2 : RowAt W u B) => same_any m u (A.map (sh dx dy)) B W hR hR2 (by rw [List.length_map]; exact hl) hl2
  obtain ⟨wb, hwb⟩ : ∃ wb, decide (A.map (sh dx dy) = B) = wb := ⟨_, rfl⟩
  rw [hwb] at HB
  rw [HB.out]
  simp only [hwb] at hS
  clear hwb HB
  have r0 := blk_new w (.cells #[.int .i64 0, .int .i64 0] 44)
  have be0 : Below w.heap.size w (w.alloc (.cells #[.int .i64 0, .int .i64 0] 44)) := (Below.refl _ _).alloc (Nat.le_refl _) _
  go_enter Tryz.func23, Tryz.ntmps23
  go_wp2_with (first
    | (go_at_call 46; refine (hcA _ (h.below be0)).mono ?_; rintro e w3 ⟨rfl, b3⟩; clear hcA; have be3 := be0.trans (b3.mono be0.size); have r3 := (b3.block _ (blk_lt r0)).trans r0; have be4 := be3.alloc be3.size (.cells #[.int .i64 ax, .int .i64 ay] 44); have r4 := blk_old r3 (.cells #[.int .i64 ax, .int .i64 ay] 44); have p4 := blk_new w3 (.cells #[.int .i64 ax, .int .i64 ay] 44))
    | (go_at_call 46; refine (hcB _ (h2.below be4)).mono ?_; rintro e w5 ⟨rfl, b5⟩; clear hcB; have be5 := be4.trans (b5.mono be4.size); have r5 := (b5.block _ (blk_lt r4)).trans r4; have p5 := (b5.block _ (blk_lt p4)).trans p4; have z50 := cell_of p5 0; have z51 := cell_of p5 1; have l5 := blk_lt p5)
    | (go_at_call 25; refine (hM _ (h.below ?_)).mono ?_; (exact (be5.alloc be5.size _).alloc (by have := be5.size; simp; omega) _); rintro e w7 ⟨⟨vm, rfl, own7⟩, b7⟩; have be6 := (be5.alloc be5.size (.cells #[.int .i64 bx, .int .i64 bY] 44)).alloc (by have := be5.size; simp; omega) (.cells #[.int .i64 dx, .int .i64 dy] 44); have be7 := be6.trans (b7.mono be6.size); have d6 := blk_new (w5.alloc (.cells #[.int .i64 bx, .int .i64 bY] 44)) (.cells #[.int .i64 dx, .int .i64 dy] 44); have d7 := (b7.block _ (blk_lt d6)).trans d6; rw [World.size_alloc] at d7; have r6 := blk_old (blk_old r5 (.cells #[.int .i64 bx, .int .i64 bY] 44)) (.cells #[.int .i64 dx, .int .i64 dy] 44); have r7 := (b7.block _ (blk_lt r6)).trans r6; have z70 := cell_of d7 0; have z71 := cell_of d7 1; have l7 := blk_lt d7))
  have s5 := be5.size
  have nR : ¬ w.heap.size = w5.heap.size + 1 := by omega
  clear be0 be3 be4 be6 r0 r3 r4 r5 r6 p4 p5 z50 z51 d6
  go_region_with (go_at_call 54; refine (hS _ _ ?_ ?_).mono ?_; (first | exact RowAt.of_owns own7 | exact RowAt.of_owns (w := World.drew _) own7); (first | exact h2.below be7 | exact h2.below be7.drew); rintro e w8 ⟨rfl, b8⟩; have r8 := (b8.block _ (blk_lt r7)).trans r7; have d8 := (b8.block _ (blk_lt d7)).trans d7; have y0 := cell_of r8 0; have y1 := cell_of r8 1; have x0 := frz_of r8 0; have x1 := frz_of r8 1; have z80 := cell_of d8 0; have z81 := cell_of d8 1)
  all_goals
    go_wp2
    have rF : ((w8.setCell ⟨w.heap.size, 0, none⟩ (.int .i64 dx)).setCell ⟨w.heap.size, 1, none⟩ (.int .i64 dy)).heap[w.heap.size]? = some (.cells #[.int .i64 dx, .int .i64 dy] 44 (0, 0)) := blk_put (j := 1) (blk_put (j := 0) r8 _) _
    have k0 := cell_of rF 0
    have k1 := cell_of rF 1
    have bF : Below w.heap.size w ((w8.setCell ⟨w.heap.size, 0, none⟩ (.int .i64 dx)).setCell ⟨w.heap.size, 1, none⟩ (.int .i64 dy)) := ((be7.drew.trans (b8.mono be7.size)).setCell (p := ⟨w.heap.size, 0, none⟩) (Nat.le_refl _) _).setCell (p := ⟨w.heap.size, 1, none⟩) (Nat.le_refl _) _
    exact bodyPost_ret (v := .tuple #[.agg #[.int .i64 dx, .int .i64 dy], .bool wb]) (by simp [results, Tryz.results23, go_sem, k0, k1]) rfl ⟨rfl, by first | exact bF | exact bF.drew⟩

end Go.Proofs.YtiohpcnnpmnjhaaGreatDoor

namespace Go.Proofs.YtiohpcnnpmnjhaaGreatDoor
open Go.RowKit
set_option linter.unusedVariables false

/-- Generation n. -/
def gen (f g : Nat → Bool) (C : List Cel) : Nat → List Cel
  | 0 => C
  | n + 1 => nextL f g (gen f g C n)
/-- The first earlier generation that generation t is, moved. -/
def cameB (f g : Nat → Bool) (C : List Cel) (t : Nat) : Option Nat := (List.range t).find? fun s => wayB (gen f g C s) (gen f g C t)
def stepC (t : Nat) (r : Int ⊕ (Nat × Nat)) : Option Nat → Int ⊕ (Nat × Nat)
  | some s => .inr (t, s)
  | none => r
/-- The course: an error, or the generation that comes back and the one that it is. -/
def courseF (f g : Nat → Bool) (C : List Cel) : Nat → Nat → Int ⊕ (Nat × Nat)
  | 0, _ => .inl 7
  | k + 1, t => if 100 < (gen f g C t).length then .inl 5 else stepC t (courseF f g C k (t + 1)) (cameB f g C t)
def course (f g : Nat → Bool) (C : List Cel) : Int ⊕ (Nat × Nat) := courseF f g C 201 0

theorem gen_asc {f g : Nat → Bool} {C : List Cel} (h : Asc C) : ∀ n, Asc (gen f g C n)
  | 0 => h
  | n + 1 => asc_nextL f g _

/-- All cells within these borders. -/
def InBox (a b c d : Int) (C : List Cel) : Prop := ∀ p ∈ C, a ≤ p.1 ∧ p.1 ≤ b ∧ c ≤ p.2 ∧ p.2 ≤ d
theorem next_box {f g : Nat → Bool} {C : List Cel} {a b c d : Int} (h : InBox a b c d C) : InBox (a - 1) (b + 1) (c - 1) (d + 1) (nextL f g C) := by
  intro p hp
  obtain ⟨⟨q, hq, hpq⟩, _⟩ := mem_nextL.1 hp
  have h1 := h q hq
  have h2 := mem_around.1 hpq
  omega
theorem gen_box {f g : Nat → Bool} {C : List Cel} {a b c d : Int} (h : InBox a b c d C) (n : Nat) : InBox (a - n) (b + n) (c - n) (d + n) (gen f g C n) := by
  induction n with
  | zero =>
    intro p hp
    have := h p hp
    simp only [Int.ofNat_zero]
    omega
  | succ n ih =>
    intro p hp
    have := next_box (f := f) (g := g) ih p hp
    omega

/-- How far apart generations may lie. -/
structure Roam (X Y : Int) (C : List Cel) : Prop where
  x1 : -2000000000000000000 ≤ X
  x2 : X ≤ 2000000000000000000
  y1 : -2000000000000000000 ≤ Y
  y2 : Y ≤ 2000000000000000000
  bx : InBox (X - 300) (X + 20000300) (Y - 300) (Y + 20000300) C
theorem Roam.mild {X Y : Int} {C : List Cel} (h : Roam X Y C) : Mild C := fun p hp => by
  have := h.bx p hp
  have := h.x1; have := h.x2; have := h.y1; have := h.y2
  omega
theorem minX_low {a : Int} : ∀ (C : List Cel) (x : Int), a ≤ x → (∀ c ∈ C, a ≤ c.1) → a ≤ minX x C
  | [], x, h, _ => by simpa [minX] using h
  | d :: r, x, h, hc => by
    have h1 := hc d (by simp)
    have := minX_low r (min x d.1) (by omega) (fun c h => hc c (by simp [h]))
    simpa [minX] using this
theorem minX_high : ∀ (C : List Cel) (x : Int), minX x C ≤ x
  | [], x => by simp [minX]
  | c :: r, x => by
    have := minX_high r (min x c.1)
    simp only [minX, List.foldl_cons] at this ⊢
    omega
theorem corn_box {a b c d : Int} {C : List Cel} (h : InBox a b c d C) : C = [] ∨ (a ≤ (cornP C).1 ∧ (cornP C).1 ≤ b ∧ c ≤ (cornP C).2 ∧ (cornP C).2 ≤ d) := by
  cases C with
  | nil => exact .inl rfl
  | cons p r =>
    obtain ⟨x, y⟩ := p
    have h1 := h (x, y) (by simp)
    simp only at h1
    refine .inr ⟨minX_low _ _ h1.1 (fun q hq => (h q hq).1), ?_, h1.2.2.1, h1.2.2.2⟩
    have := minX_high ((x, y) :: r) x
    show minX x ((x, y) :: r) ≤ b
    omega
theorem way_roam {X Y : Int} {A B : List Cel} (ha : Roam X Y A) (hb : Roam X Y B) : Fits (wayD A B).1 (wayD A B).2 A ∧ (-9000000000000000000 ≤ (wayD A B).1 ∧ (wayD A B).1 ≤ 9000000000000000000) ∧ (-9000000000000000000 ≤ (wayD A B).2 ∧ (wayD A B).2 ≤ 9000000000000000000) := by
  have x1 := ha.x1; have x2 := ha.x2; have y1 := ha.y1; have y2 := ha.y2
  have cA := corn_box ha.bx
  have cB := corn_box hb.bx
  have hz : ∀ C : List Cel, C = [] → (cornP C).1 = 0 ∧ (cornP C).2 = 0 := fun C h => by subst h; exact ⟨rfl, rfl⟩
  unfold wayD
  refine ⟨fun p hp => ?_, ?_, ?_⟩
  · have hp1 := ha.bx p hp
    simp only
    rcases cA with rfl | cA
    · simp at hp
    · rcases cB with rfl | cB
      · have := hz [] rfl; omega
      · omega
  · simp only
    rcases cA with hA | cA
    · have := hz A hA
      rcases cB with hB | cB
      · have := hz B hB; omega
      · omega
    · rcases cB with hB | cB
      · have := hz B hB; omega
      · omega
  · simp only
    rcases cA with hA | cA
    · have := hz A hA
      rcases cB with hB | cB
      · have := hz B hB; omega
      · omega
    · rcases cB with hB | cB
      · have := hz B hB; omega
      · omega

theorem gen_roam {f g : Nat → Bool} {C : List Cel} {X Y : Int} (hx : -2000000000000000000 ≤ X ∧ X ≤ 2000000000000000000) (hy : -2000000000000000000 ≤ Y ∧ Y ≤ 2000000000000000000) (h : InBox X (X + 20000000) Y (Y + 20000000) C) {n : Nat} (hn : n ≤ 300) : Roam X Y (gen f g C n) :=
  ⟨hx.1, hx.2, hy.1, hy.2, fun p hp => by have := gen_box (f := f) (g := g) h n p hp; omega⟩

theorem cameB_go {f g : Nat → Bool} {C : List Cel} {t : Nat} {s : Nat} (hs : s < t) (hn : ∀ r, r < s → wayB (gen f g C r) (gen f g C t) = false) (hw : wayB (gen f g C s) (gen f g C t) = true) : cameB f g C t = some s := by
  unfold cameB
  rw [List.find?_range_eq_some]
  exact ⟨hw, by simpa using hs, fun r hr => by simp [hn r hr]⟩
theorem cameB_none {f g : Nat → Bool} {C : List Cel} {t : Nat} (hn : ∀ r, r < t → wayB (gen f g C r) (gen f g C t) = false) : cameB f g C t = none := by
  unfold cameB
  rw [List.find?_eq_none]
  intro r hr
  rw [List.mem_range] at hr
  simp [hn r hr]

end Go.Proofs.YtiohpcnnpmnjhaaGreatDoor
