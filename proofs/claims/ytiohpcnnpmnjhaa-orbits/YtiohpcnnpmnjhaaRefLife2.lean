import Derived.Test.YtiohpcnnpmnjhaaRefLife1
import Derived.Deep.RegionWith
namespace Go.Proofs.Ytiohpcnnpmnjhaa
open Go.RowKit
set_option linter.unusedVariables false

theorem infoRC : (Try.prog.info? 72).map (fun i => (i.zero, i.size, i.bytes)) = some (some (.agg #[.int .i64 0, .int .i64 0]), 2, 16) := by kernel_rfl

/-- What With has made when k cells are through. -/
def WSt (C : List Cel) (c : Cel) (k : Nat) (D : Bool) (O : List Cel) : Prop := (D = true ∧ withC C c = O ++ C.drop k) ∨ (D = false ∧ O = C.take k ∧ withC C c = C.take k ++ withC (C.drop k) c)
theorem WSt.start (C : List Cel) (c : Cel) : WSt C c 0 false [] := .inr ⟨rfl, by simp, by simp⟩
theorem drop_at {C : List Cel} {k : Nat} {d : Cel} (h : C[k]? = some d) : C.drop k = d :: C.drop (k + 1) := by
  obtain ⟨hk, rfl⟩ := List.getElem?_eq_some_iff.1 h
  exact List.drop_eq_getElem_cons hk
theorem WSt.done {C : List Cel} {c d : Cel} {k : Nat} {O : List Cel} (h : WSt C c k true O) (hk : C[k]? = some d) : WSt C c (k + 1) true (O ++ [d]) := by
  rcases h with ⟨_, h⟩ | ⟨h, _⟩
  · exact .inl ⟨rfl, by rw [h, drop_at hk]; simp⟩
  · cases h
theorem WSt.ahead {C : List Cel} {c d : Cel} {k : Nat} {O : List Cel} (h : WSt C c k false O) (hk : C[k]? = some d) (hb : before c d) : WSt C c (k + 1) true (O ++ [c] ++ [d]) := by
  rcases h with ⟨h, _⟩ | ⟨_, rfl, h⟩
  · cases h
  · exact .inl ⟨rfl, by rw [h, drop_at hk, withC, if_pos hb]; simp⟩
theorem WSt.same {C : List Cel} {c d : Cel} {k : Nat} {O : List Cel} (h : WSt C c k false O) (hk : C[k]? = some d) (hb : ¬ before c d) (he : d = c) : WSt C c (k + 1) true (O ++ [d]) := by
  rcases h with ⟨h, _⟩ | ⟨_, rfl, h⟩
  · cases h
  · exact .inl ⟨rfl, by rw [h, drop_at hk, withC, if_neg hb, if_pos he]; simp⟩
theorem WSt.on {C : List Cel} {c d : Cel} {k : Nat} {O : List Cel} (h : WSt C c k false O) (hk : C[k]? = some d) (hb : ¬ before c d) (he : ¬ d = c) : WSt C c (k + 1) false (O ++ [d]) := by
  rcases h with ⟨h, _⟩ | ⟨_, rfl, h⟩
  · cases h
  · refine .inr ⟨rfl, by rw [List.take_add_one, hk]; rfl, ?_⟩
    rw [h, drop_at hk, withC, if_neg hb, if_neg he, List.take_add_one, hk]
    simp
theorem WSt.end_ {C : List Cel} {c : Cel} {O : List Cel} {D : Bool} (h : WSt C c C.length D O) : withC C c = if D then O else O ++ [c] := by
  rcases h with ⟨rfl, h⟩ | ⟨rfl, rfl, h⟩
  · simp [h]
  · rw [h]; simp [withC]
theorem WSt.len {C : List Cel} {c : Cel} {k : Nat} {O : List Cel} {D : Bool} (h : WSt C c k D O) (hk : k ≤ C.length) : O.length ≤ k + 1 := by
  rcases h with ⟨rfl, h⟩ | ⟨rfl, rfl, h⟩
  · have h1 := congrArg List.length h
    have h2 := len_withC C c
    rw [List.length_append, List.length_drop] at h1
    omega
  · have := List.length_take_le k C; omega

theorem ownsRow_up {w : World} {B C : Nat} {e : TypeId} {m : Nat} {v : Value} {n : Nat} {xs : List Value} (h : w.ownsRow B e m v n xs) (hc : C ≤ B) : w.ownsRow C e m v n xs := by
  obtain ⟨h1, h2⟩ := h
  refine ⟨h1, ?_⟩
  rcases h2 with h2 | ⟨g, cap, cur, hv, hg, r⟩
  · exact .inl h2
  · exact .inr ⟨g, cap, cur, hv, Nat.le_trans hc hg, r⟩
/-- What an append onto the call's own list keeps. -/
theorem out_grown {w W w1 : World} {n : Nat} {e : TypeId} {v : Value} {xs : List Value} {o ob : Obj} (hb : Below w.heap.size w W) (own : W.ownsRow (w.heap.size + 1) e 2 v n xs) (b0 : W.heap[w.heap.size]? = some ob) (hg : World.grownBy (W.alloc o) w1 v.ownBlock) :
    Below w.heap.size w w1 ∧ w1.heap[w.heap.size]? = some ob ∧ w.heap.size + 1 ≤ w1.heap.size := by
  have hl := blk_lt b0
  have h1 : Below (w.heap.size + 1) W w1 := ((Below.refl _ _).alloc (by omega) _).grown hg (by simp; omega) (fun k hk => (own.lt k hk).1)
  exact ⟨hb.trans (h1.mono (by omega)), (h1.block _ (by omega)).trans b0, by have := h1.size; omega⟩
theorem flatC_one (O : List Cel) (a b : Int) : flatC (O ++ [(a, b)]) = flatC O ++ [.int .i64 a, .int .i64 b] := by rw [flatC_append]; rfl

set_option maxRecDepth 100000 in
set_option maxHeartbeats 3200000 in
theorem with_any (v : Value) (C : List Cel) (x y : Int) (w : World) (h : RowAt w v C) (hl : C.length ≤ 1000000) :
    Calls Try.prog 42 #[v, .agg #[.int .i64 x, .int .i64 y]] w fun e w' => (∃ v', e = .returned v' ∧ w'.ownsRow w.heap.size 72 2 v' (withC C (x, y)).length (flatC (withC C (x, y)))) ∧ Below w.heap.size w w' := by
  obtain ⟨ad, cp, rfl⟩ := h.slice
  obtain ⟨i0, hi0, hz0, hz1, hz2⟩ := info_parts infoRC
  have heq := fun a b c d w => eqIn_rcell a b c d w
  have hnot : ∀ (x : Bool) (w : World), (Op.unary .not (.bool x)).run Try.prog w = .ok (.bool (!x)) w := fun _ _ => rfl
  go_enter Try.func42, Try.ntmps42
  go_wp2
  go_loopg [5, 6, 7] C.length (fun gm vo vd vi wr => ∃ (k : Nat) (D : Bool) (O : List Cel), k ≤ C.length ∧ gm = C.length - k ∧ vd = .bool D ∧ vi = .int .i64 (k : Int) ∧ wr.ownsRow (w.heap.size + 1) 72 2 vo O.length (flatC O) ∧ Below w.heap.size w wr ∧ wr.heap[w.heap.size]? = some (.cells #[.int .i64 x, .int .i64 y] 72 (0, 0)) ∧ Hid (WSt C (x, y) k D O))
  case atStart => exact ⟨0, false, [], Nat.zero_le _, rfl, rfl, rfl, World.ownsRow_nil _ _ _ _, (Below.refl _ _).alloc (Nat.le_refl _) _, blk_new w _, WSt.start C (x, y)⟩
  case round =>
    obtain ⟨k, D, O, hk, rfl, rfl, rfl, own, hb, b0, hst⟩ := hrel
    have c0 := cell_of b0 0
    have c1 := cell_of b0 1
    have hO := hst.out.len hk
    have hN := blk_lt b0
    by_cases hlt : k < C.length
    · have hdc : decide ((k : Int) < (C.length : Int)) = true := decide_eq_true (by omega)
      obtain ⟨⟨x', y'⟩, hs⟩ : ∃ s, C[k]? = some s := ⟨C[k], by simp [hlt]⟩
      obtain ⟨g, rfl, hg, hget⟩ := h.get hs
      obtain ⟨d0, d1⟩ := hget wr hb
      simp only at d0 d1
      have hgN : ¬ g = w.heap.size := by omega
      have hgl : g < wr.heap.size := by omega
      by_cases he : x' = x ∧ y' = y
      · obtain ⟨rfl, rfl⟩ := he
        have hbf : ¬ before (x', y') (x', y') := before_irr _
        cases D with
        | true =>
          have HS : Hid (WSt C (x', y') (k + 1) true (O ++ [(x', y')])) := hst.out.done hs
          clear hs hst
          go_wp2
          go_quiet (fail)
          go_wp2
          go_quiet (fail)
          go_wp2_with (at_builtin; refine wpList_append_own _ rfl _ _ 52 rfl (w.heap.size + 1) 72 i0 (.agg #[.int .i64 0, .int .i64 0]) 2 16 Try.underlying52 hi0 hz0 hz1 hz2 rfl (by decide) _ _ _ rfl (World.ownsRow.alloc (show (wr.drewN _).ownsRow _ _ _ _ _ _ from own) _) ⟨wr.heap.size, 0, none⟩ 1 1 [.int .i64 x', .int .i64 y'] rfl rfl (cell_two_new _ _ _ _) (by simp [Value.oneCell']) (by unfold maxLen; omega) (by omega) (by simp; omega) ?_; intro vw1 w1 own1 hg1 _)
          obtain ⟨hb1, b1, _⟩ := out_grown (W := wr.drewN _) (below_drewN hb _) own b0 hg1
          go_wp2
          go_roundg (C.length - (k + 1))
          case measure => omega
          case rel =>
            refine ⟨k + 1, true, O ++ [(x', y')], by omega, rfl, rfl, by go_num, ?_, hb1, b1, HS⟩
            rw [flatC_one, List.length_append]
            exact own1
        | false =>
          have HS : Hid (WSt C (x', y') (k + 1) true (O ++ [(x', y')])) := hst.out.same hs hbf rfl
          have hA := fun w => ahead_any x' y' x' y' w
          simp only [decide_eq_false hbf] at hA
          clear hs hst hbf
          go_wp2
          go_cut [23] from 14 to 23 (fun v23 wx => v23 = .bool false ∧ wx.ownsRow (w.heap.size + 1) 72 2 u5 O.length (flatC O) ∧ Below w.heap.size w wx ∧ wx.heap[w.heap.size]? = some (.cells #[.int .i64 x', .int .i64 y'] 72 (0, 0)))
          case first =>
            go_region_with (go_at_call 55; refine (hA _).mono ?_; rintro e w4 ⟨rfl, rfl⟩)
            all_goals
              go_wp2_with fail
              go_meet
              case rel => exact ⟨rfl, (own.alloc _).alloc _, ((hb.alloc hb.size _).alloc (by simp; omega) _).drew, blk_old (blk_old b0 _) _⟩
          case rest =>
            obtain ⟨rfl, own2, hb2, b2⟩ := hcut
            clear c0 c1 d0 d1 hgl hN own hb b0
            have c0 := cell_of b2 0
            have c1 := cell_of b2 1
            have hN := blk_lt b2
            obtain ⟨d0, d1⟩ := hget wc hb2
            try simp only at d0 d1
            have hgl : g < wc.heap.size := by omega
            go_wp2
            go_quiet (fail)
            go_wp2_with (at_builtin; refine wpList_append_own _ rfl _ _ 52 rfl (w.heap.size + 1) 72 i0 (.agg #[.int .i64 0, .int .i64 0]) 2 16 Try.underlying52 hi0 hz0 hz1 hz2 rfl (by decide) _ _ _ rfl (World.ownsRow.alloc (show (wc.drewN _).ownsRow _ _ _ _ _ _ from own2) _) ⟨wc.heap.size, 0, none⟩ 1 1 [.int .i64 x', .int .i64 y'] rfl rfl (cell_two_new _ _ _ _) (by simp [Value.oneCell']) (by unfold maxLen; omega) (by omega) (by simp; omega) ?_; intro vw5 w5 own5 hg5 _)
            obtain ⟨hb5, b5, _⟩ := out_grown (W := wc.drewN _) (below_drewN hb2 _) own2 b2 hg5
            go_wp2
            go_roundg (C.length - (k + 1))
            case measure => omega
            case rel =>
              refine ⟨k + 1, true, O ++ [(x', y')], by omega, rfl, rfl, by go_num, ?_, hb5, b5, HS⟩
              rw [flatC_one, List.length_append]
              exact own5
      · have hne : (x' == x && y' == y) = false := by simpa using he
        have hpe : ¬ (x', y') = (x, y) := by intro e; cases e; exact he ⟨rfl, rfl⟩
        cases D with
        | true =>
          have HS : Hid (WSt C (x, y) (k + 1) true (O ++ [(x', y')])) := hst.out.done hs
          clear hs hst he hpe
          go_wp2
          go_quiet (fail)
          go_wp2
          go_quiet (fail)
          go_wp2_with (at_builtin; refine wpList_append_own _ rfl _ _ 52 rfl (w.heap.size + 1) 72 i0 (.agg #[.int .i64 0, .int .i64 0]) 2 16 Try.underlying52 hi0 hz0 hz1 hz2 rfl (by decide) _ _ _ rfl (World.ownsRow.alloc (show (wr.drewN _).ownsRow _ _ _ _ _ _ from own) _) ⟨wr.heap.size, 0, none⟩ 1 1 [.int .i64 x', .int .i64 y'] rfl rfl (cell_two_new _ _ _ _) (by simp [Value.oneCell']) (by unfold maxLen; omega) (by omega) (by simp; omega) ?_; intro vw1 w1 own1 hg1 _)
          obtain ⟨hb1, b1, _⟩ := out_grown (W := wr.drewN _) (below_drewN hb _) own b0 hg1
          go_wp2
          go_roundg (C.length - (k + 1))
          case measure => omega
          case rel =>
            refine ⟨k + 1, true, O ++ [(x', y')], by omega, rfl, rfl, by go_num, ?_, hb1, b1, HS⟩
            rw [flatC_one, List.length_append]
            exact own1
        | false =>
          by_cases hbf : before (x, y) (x', y')
          · have HS : Hid (WSt C (x, y) (k + 1) true (O ++ [(x, y)] ++ [(x', y')])) := hst.out.ahead hs hbf
            have hA := fun w => ahead_any x y x' y' w
            simp only [decide_eq_true hbf] at hA
            clear hs hst hbf he hpe
            go_wp2
            go_cut [23] from 14 to 23 (fun v23 wx => v23 = .bool true ∧ wx.ownsRow (w.heap.size + 1) 72 2 u5 O.length (flatC O) ∧ Below w.heap.size w wx ∧ wx.heap[w.heap.size]? = some (.cells #[.int .i64 x, .int .i64 y] 72 (0, 0)))
            case first =>
              go_region_with (go_at_call 55; refine (hA _).mono ?_; rintro e w4 ⟨rfl, rfl⟩)
              all_goals
                go_wp2_with fail
                go_meet
                case rel => exact ⟨rfl, (own.alloc _).alloc _, ((hb.alloc hb.size _).alloc (by simp; omega) _).drew, blk_old (blk_old b0 _) _⟩
            case rest =>
              obtain ⟨rfl, own2, hb2, b2⟩ := hcut
              clear c0 c1 d0 d1 hgl hN own hb b0
              have c0 := cell_of b2 0
              have c1 := cell_of b2 1
              have hN := blk_lt b2
              obtain ⟨d0, d1⟩ := hget wc hb2
              try simp only at d0 d1
              have hgl : g < wc.heap.size := by omega
              go_wp2_with (at_builtin; refine wpList_append_own _ rfl _ _ 52 rfl (w.heap.size + 1) 72 i0 (.agg #[.int .i64 0, .int .i64 0]) 2 16 Try.underlying52 hi0 hz0 hz1 hz2 rfl (by decide) _ _ _ rfl (World.ownsRow.alloc (show (wc).ownsRow _ _ _ _ _ _ from own2) _) ⟨wc.heap.size, 0, none⟩ 1 1 [.int .i64 x, .int .i64 y] rfl rfl (cell_two_new _ _ _ _) (by simp [Value.oneCell']) (by unfold maxLen; omega) (by omega) (by simp; omega) ?_; intro vw5 w5 own5 hg5 _)
              obtain ⟨hb5, b5, _⟩ := out_grown hb2 own2 b2 hg5
              rw [← List.length_singleton (a := (x, y)), ← List.length_append, ← flatC_one] at own5
              clear c0 c1 d0 d1 hgl hN own2 hb2 b2
              have c0 := cell_of b5 0
              have c1 := cell_of b5 1
              have hN := blk_lt b5
              obtain ⟨d0, d1⟩ := hget w5 hb5
              try simp only at d0 d1
              have hgl : g < w5.heap.size := by omega
              have hO5 : (O ++ [(x, y)]).length ≤ k + 2 := by simp; omega
              go_wp2
              go_quiet (fail)
              go_wp2_with (at_builtin; refine wpList_append_own _ rfl _ _ 52 rfl (w.heap.size + 1) 72 i0 (.agg #[.int .i64 0, .int .i64 0]) 2 16 Try.underlying52 hi0 hz0 hz1 hz2 rfl (by decide) _ _ _ rfl (World.ownsRow.alloc (show (w5.drewN _).ownsRow _ _ _ _ _ _ from own5) _) ⟨w5.heap.size, 0, none⟩ 1 1 [.int .i64 x', .int .i64 y'] rfl rfl (cell_two_new _ _ _ _) (by simp [Value.oneCell']) (by unfold maxLen; omega) (by omega) (by simp; omega) ?_; intro vw6 w6 own6 hg6 _)
              obtain ⟨hb6, b6, _⟩ := out_grown (W := w5.drewN _) (below_drewN hb5 _) own5 b5 hg6
              go_wp2
              go_roundg (C.length - (k + 1))
              case measure => omega
              case rel =>
                refine ⟨k + 1, true, O ++ [(x, y)] ++ [(x', y')], by omega, rfl, rfl, by go_num, ?_, hb6, b6, HS⟩
                rw [flatC_one, List.length_append]
                exact own6
          · have HS : Hid (WSt C (x, y) (k + 1) false (O ++ [(x', y')])) := hst.out.on hs hbf hpe
            have hA := fun w => ahead_any x y x' y' w
            simp only [decide_eq_false hbf] at hA
            clear hs hst hbf he hpe
            go_wp2
            go_cut [23] from 14 to 23 (fun v23 wx => v23 = .bool false ∧ wx.ownsRow (w.heap.size + 1) 72 2 u5 O.length (flatC O) ∧ Below w.heap.size w wx ∧ wx.heap[w.heap.size]? = some (.cells #[.int .i64 x, .int .i64 y] 72 (0, 0)))
            case first =>
              go_region_with (go_at_call 55; refine (hA _).mono ?_; rintro e w4 ⟨rfl, rfl⟩)
              all_goals
                go_wp2_with fail
                go_meet
                case rel => exact ⟨rfl, (own.alloc _).alloc _, ((hb.alloc hb.size _).alloc (by simp; omega) _).drew, blk_old (blk_old b0 _) _⟩
            case rest =>
              obtain ⟨rfl, own2, hb2, b2⟩ := hcut
              clear c0 c1 d0 d1 hgl hN own hb b0
              have c0 := cell_of b2 0
              have c1 := cell_of b2 1
              have hN := blk_lt b2
              obtain ⟨d0, d1⟩ := hget wc hb2
              try simp only at d0 d1
              have hgl : g < wc.heap.size := by omega
              go_wp2
              go_quiet (fail)
              go_wp2_with (at_builtin; refine wpList_append_own _ rfl _ _ 52 rfl (w.heap.size + 1) 72 i0 (.agg #[.int .i64 0, .int .i64 0]) 2 16 Try.underlying52 hi0 hz0 hz1 hz2 rfl (by decide) _ _ _ rfl (World.ownsRow.alloc (show (wc.drewN _).ownsRow _ _ _ _ _ _ from own2) _) ⟨wc.heap.size, 0, none⟩ 1 1 [.int .i64 x', .int .i64 y'] rfl rfl (cell_two_new _ _ _ _) (by simp [Value.oneCell']) (by unfold maxLen; omega) (by omega) (by simp; omega) ?_; intro vw5 w5 own5 hg5 _)
              obtain ⟨hb5, b5, _⟩ := out_grown (W := wc.drewN _) (below_drewN hb2 _) own2 b2 hg5
              go_wp2
              go_roundg (C.length - (k + 1))
              case measure => omega
              case rel =>
                refine ⟨k + 1, false, O ++ [(x', y')], by omega, rfl, rfl, by go_num, ?_, hb5, b5, HS⟩
                rw [flatC_one, List.length_append]
                exact own5
    · have hdc : decide ((k : Int) < (C.length : Int)) = false := decide_eq_false (by omega)
      obtain rfl : k = C.length := by omega
      cases D with
      | true =>
        have HE : Hid (withC C (x, y) = O) := by show _ = _; rw [hst.out.end_]; rfl
        go_wp2
        go_ret
        refine ⟨⟨_, rfl, ?_⟩, hb⟩
        rw [HE.out]
        exact ownsRow_up own (by omega)
      | false =>
        have HE : Hid (withC C (x, y) = O ++ [(x, y)]) := by show _ = _; rw [hst.out.end_]; rfl
        go_wp2_with (at_builtin; refine wpList_append_own _ rfl _ _ 52 rfl (w.heap.size + 1) 72 i0 (.agg #[.int .i64 0, .int .i64 0]) 2 16 Try.underlying52 hi0 hz0 hz1 hz2 rfl (by decide) _ _ _ rfl (World.ownsRow.alloc (show (wr).ownsRow _ _ _ _ _ _ from own) _) ⟨wr.heap.size, 0, none⟩ 1 1 [.int .i64 x, .int .i64 y] rfl rfl (cell_two_new _ _ _ _) (by simp [Value.oneCell']) (by unfold maxLen; omega) (by omega) (by simp; omega) ?_; intro vw1 w1 own1 hg1 _)
        obtain ⟨hb1, b1, _⟩ := out_grown hb own b0 hg1
        go_wp2
        go_ret
        refine ⟨⟨_, rfl, ?_⟩, hb1⟩
        rw [HE.out, flatC_one, List.length_append]
        exact ownsRow_up own1 (by omega)

end Go.Proofs.Ytiohpcnnpmnjhaa
