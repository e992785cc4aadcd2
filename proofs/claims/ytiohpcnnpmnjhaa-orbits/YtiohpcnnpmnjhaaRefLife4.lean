import Derived.Test.YtiohpcnnpmnjhaaRefLife3
import Derived.Test.YtiohpcnnpmnjhaaRefCorner
import Derived.Test.YtiohpcnnpmnjhaaReadRunsM
namespace Go.Proofs.Ytiohpcnnpmnjhaa
open Go.RowKit
set_option linter.unusedVariables false

set_option maxRecDepth 100000 in
set_option maxHeartbeats 1600000 in
theorem rmoved_any (v : Value) (C : List Cel) (dx dy : Int) (w : World) (h : RowAt w v C) (hl : C.length ≤ 1000000) (hF : Fits dx dy C) :
    Calls Try.prog 38 #[v, .int .i64 dx, .int .i64 dy] w fun e w' => (∃ v', e = .returned v' ∧ w'.ownsRow w.heap.size 72 2 v' (C.map (sh dx dy)).length (flatC (C.map (sh dx dy)))) ∧ Below w.heap.size w w' := by
  obtain ⟨ad, cp, rfl⟩ := h.slice
  obtain ⟨i0, hi0, hz0, hz1, hz2⟩ := info_parts infoRC
  go_enter Try.func38, Try.ntmps38
  go_wp2
  go_loopw [7, 8] (fun vo vi wr => ∃ k : Nat, k ≤ C.length ∧ vi = .int .i64 (k : Int) ∧ wr.ownsRow w.heap.size 72 2 vo ((C.take k).map (sh dx dy)).length (flatC ((C.take k).map (sh dx dy))) ∧ Below w.heap.size w wr) (fun _ vi _ => C.length - (intOf vi).toNat)
  case atStart => exact ⟨0, Nat.zero_le _, rfl, World.ownsRow_nil _ _ _ _, Below.refl _ _⟩
  case round =>
    obtain ⟨k, hk, rfl, own, hb⟩ := hrel
    by_cases hlt : k < C.length
    · have hdc : decide ((k : Int) < (C.length : Int)) = true := decide_eq_true (by omega)
      obtain ⟨⟨x, y⟩, hs⟩ : ∃ s, C[k]? = some s := ⟨C[k], by simp [hlt]⟩
      obtain ⟨g, rfl, hg, hget⟩ := h.get hs
      obtain ⟨d0, d1⟩ := hget wr hb
      have hf := hF (x, y) (List.mem_of_getElem? hs)
      simp only at d0 d1 hf
      have HT : Hid ((C.take (k + 1)).map (sh dx dy) = (C.take k).map (sh dx dy) ++ [(x + dx, y + dy)]) := by
        show _ = _
        rw [List.take_add_one, hs]; simp [sh]
      have hM : ((C.take k).map (sh dx dy)).length ≤ k := by rw [List.length_map]; exact List.length_take_le k C
      obtain ⟨M, hMe⟩ : ∃ M, (C.take k).map (sh dx dy) = M := ⟨_, rfl⟩
      rw [hMe] at own HT hM
      have w1 : IntKind.i64.wrap (x + dx) = x + dx := IntWalk.i64_in _ ⟨by omega, by omega⟩
      have w2 : IntKind.i64.wrap (y + dy) = y + dy := IntWalk.i64_in _ ⟨by omega, by omega⟩
      have hgl : g < wr.heap.size := by have := hb.size; omega
      have hsz := hb.size
      clear hs hMe
      go_wp2
      go_region_law (refine step_append_own rfl (.tmp 15) (.tmp 31) 52 rfl w.heap.size 72 i0 (.agg #[.int .i64 0, .int .i64 0]) 2 16 Try.underlying52 hi0 hz0 hz1 hz2 rfl (by decide) u7 M.length (flatC M) (by simp [Act.eval]) (own.alloc _) ⟨wr.heap.size, 0, none⟩ 1 1 [.int .i64 (x + dx), .int .i64 (y + dy)] (by simp [Act.eval]) rfl (cell_two_new _ _ _ _) (by simp [Value.oneCell']) (by unfold maxLen; omega) (by omega) (by simp; omega) ?_; intro v' w1 own1 hg1)
      all_goals
        go_wp2
        go_roundw
        case rel =>
          have hb1 : Below w.heap.size w w1 := ((hb.alloc hb.size _).drew).grown hg1 (by simp; omega) (fun k hk => (own.lt k hk).1)
          refine ⟨k + 1, by omega, by go_num, ?_, hb1⟩
          rw [HT.out, flatC_one, List.length_append]
          exact own1
        case measure => simp [intOf]; omega
    · have hdc : decide ((k : Int) < (C.length : Int)) = false := decide_eq_false (by omega)
      obtain rfl : k = C.length := by omega
      rw [List.take_length] at own
      go_wp2
      go_ret
      exact ⟨⟨_, rfl, own⟩, hb⟩

set_option maxRecDepth 100000 in
set_option maxHeartbeats 1600000 in
theorem same_any (v u : Value) (A B : List Cel) (w : World) (h : RowAt w v A) (h2 : RowAt w u B) (hl : A.length ≤ 1000000) (hl2 : B.length ≤ 1000000) :
    Calls Try.prog 39 #[v, u] w fun e w' => e = .returned (.bool (decide (A = B))) ∧ Below w.heap.size w w' := by
  obtain ⟨ad, cp, rfl⟩ := h.slice
  obtain ⟨ae, cq, rfl⟩ := h2.slice
  have heq := fun a b c d w => eqIn_rcell a b c d w
  have hnot : ∀ (x : Bool) (w : World), (Op.unary .not (.bool x)).run Try.prog w = .ok (.bool (!x)) w := fun _ _ => rfl
  by_cases hn : A.length = B.length
  rotate_left
  · have hq : ((A.length : Int) == (B.length : Int)) = false := by simp; omega
    have hq2 : ((A.length : Int) != (B.length : Int)) = true := by simp [bne, hq]
    have hq3 : ¬ (A.length : Int) = (B.length : Int) := by omega
    have HM : Hid (decide (A = B) = false) := decide_eq_false (by rintro rfl; exact hn rfl)
    go_enter Try.func39, Try.ntmps39
    go_wp2
    go_ret
    exact ⟨ret_bool (a := false) HM.out.symm, Below.refl _ _⟩
  rw [← hn]
  have HN : Hid (A.length = B.length) := hn
  clear hn
  go_enter Try.func39, Try.ntmps39
  go_wp2
  go_loopw [5] (fun i wr => ∃ k : Nat, k ≤ A.length ∧ i = .int .i64 k ∧ Below w.heap.size w wr ∧ Hid (A.take k = B.take k)) (fun i _ => A.length - (intOf i).toNat)
  case atStart => exact ⟨0, Nat.zero_le _, rfl, Below.refl _ _, by simp [Hid]⟩
  case round =>
    obtain ⟨k, hk, rfl, hb, hT⟩ := hrel
    by_cases hlt : k < A.length
    · have hdc : decide ((k : Int) < (A.length : Int)) = true := decide_eq_true (by omega)
      obtain ⟨⟨x, y⟩, hs⟩ : ∃ s, A[k]? = some s := ⟨A[k], by simp [hlt]⟩
      obtain ⟨⟨x', y'⟩, hs'⟩ : ∃ s, B[k]? = some s := ⟨B[k]'(by rw [← HN.out]; exact hlt), by simp⟩
      obtain ⟨g, rfl, hg, hget⟩ := h.get hs
      obtain ⟨g', rfl, hg', hget'⟩ := h2.get hs'
      obtain ⟨d0, d1⟩ := hget wr hb
      obtain ⟨e0, e1⟩ := hget' wr hb
      simp only at d0 d1 e0 e1
      by_cases he : x = x' ∧ y = y'
      · obtain ⟨rfl, rfl⟩ := he
        have HT : Hid (A.take (k + 1) = B.take (k + 1)) := by
          show _ = _
          rw [List.take_add_one, List.take_add_one, hs, hs', hT.out]
        clear hs hs' hT
        go_wp2
        go_quiet (fail)
        go_wp2
        go_roundw
        case rel => exact ⟨k + 1, by omega, by go_num, below_drewN hb _, HT⟩
        case measure => simp [intOf]; omega
      · have hne : (x == x' && y == y') = false := by simpa using he
        have HM : Hid (decide (A = B) = false) := decide_eq_false (by
          intro e
          rw [e, hs'] at hs
          cases hs
          exact he ⟨rfl, rfl⟩)
        clear hs hs' hT he
        go_wp2
        go_quiet (fail)
        go_wp2
        go_ret
        exact ⟨ret_bool (a := false) HM.out.symm, below_drewN hb _⟩
    · have hdc : decide ((k : Int) < (A.length : Int)) = false := decide_eq_false (by omega)
      obtain rfl : k = A.length := by omega
      have HM : Hid (decide (A = B) = true) := decide_eq_true (by
        have := hT.out
        rw [List.take_length, HN.out, List.take_length] at this
        exact this)
      go_wp2
      go_ret
      exact ⟨ret_bool (a := true) HM.out.symm, hb⟩

end Go.Proofs.Ytiohpcnnpmnjhaa
