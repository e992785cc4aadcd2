import Derived.Test.YtiohpcnnpmnjhaaGreatDoorRefLife1
import Derived.Deep.RegionWith
import Derived.Test.YtiohpcnnpmnjhaaGreatDoorRuleRead
namespace Go.Proofs.YtiohpcnnpmnjhaaGreatDoor
open Go.RowKit
set_option linter.unusedVariables false

theorem infoRC : (Tryz.prog.info? 44).map (fun i => (i.zero, i.size, i.bytes)) = some (some (.agg #[.int .i64 0, .int .i64 0]), 2, 16) := by kernel_rfl

/-- What With has made when k cells are through. -/
def WSt (C : List Cel) (c : Cel) (k : Nat) (D : Bool) (O : List Cel) : Prop := (D = true ∧ withC C c = O ++ C.drop k) ∨ (D = false ∧ O = C.take k ∧ withC C c = C.take k ++ withC (C.drop k) c)
theorem WSt.start (C : List Cel) (c : Cel) : WSt C c 0 false [] := .inr ⟨rfl, by simp, by simp⟩
theorem drop_at {C : List Cel} {k : Nat} {d : Cel} (h : C[k]? = some d) : C.drop k = d :: C.drop (k + 1) := by
  obtain ⟨hk, rfl⟩ := List.getElem?_eq_some_iff.1 h
  exact List.drop_eq_getElem_cons hk
theorem WSt.done {C : List Cel} {c d : Cel} {k : Nat} {O : List Cel} (h : WSt C c k true O) (hk : C[k]? = some d) : WSt C c (k + 1) true (O ++ [d]) := by
  rcases h with ⟨_, h⟩ | ⟨h, _⟩
  · exact .inl ⟨rfl, by rw [h, drop_at hk]; simp⟩
  · cases h
theorem WSt.ahead {C : List Cel} {c d : Cel} {k : Nat} {O : List Cel} (h : WSt C c k false O) (hk : C[k]? = some d) (hb : before c d) : WSt C c (k + 1) true (O ++ [c] ++ [d]) := by
  rcases h with ⟨h, _⟩ | ⟨_, rfl, h⟩
  · cases h
  · exact .inl ⟨rfl, by rw [h, drop_at hk, withC, if_pos hb]; simp⟩
theorem WSt.same {C : List Cel} {c d : Cel} {k : Nat} {O : List Cel} (h : WSt C c k false O) (hk : C[k]? = some d) (hb : ¬ before c d) (he : d = c) : WSt C c (k + 1) true (O ++ [d]) := by
  rcases h with ⟨h, _⟩ | ⟨_, rfl, h⟩
  · cases h
  · exact .inl ⟨rfl, by rw [h, drop_at hk, withC, if_neg hb, if_pos he]; simp⟩
theorem WSt.on {C : List Cel} {c d : Cel} {k : Nat} {O : List Cel} (h : WSt C c k false O) (hk : C[k]? = some d) (hb : ¬ before c d) (he : ¬ d = c) : WSt C c (k + 1) false (O ++ [d]) := by
  rcases h with ⟨h, _⟩ | ⟨_, rfl, h⟩
  · cases h
  · refine .inr ⟨rfl, by rw [List.take_add_one, hk]; rfl, ?_⟩
    rw [h, drop_at hk, withC, if_neg hb, if_neg he, List.take_add_one, hk]
    simp
theorem WSt.end_ {C : List Cel} {c : Cel} {O : List Cel} {D : Bool} (h : WSt C c C.length D O) : withC C c = if D then O else O ++ [c] := by
  rcases h with ⟨rfl, h⟩ | ⟨rfl, rfl, h⟩
  · simp [h]
  · rw [h]; simp [withC]
theorem WSt.len {C : List Cel} {c : Cel} {k : Nat} {O : List Cel} {D : Bool} (h : WSt C c k D O) (hk : k ≤ C.length) : O.length ≤ k + 1 := by
  rcases h with ⟨rfl, h⟩ | ⟨rfl, rfl, h⟩
  · have h1 := congrArg List.length h
    have h2 := len_withC C c
    rw [List.length_append, List.length_drop] at h1
    omega
  · have := List.length_take_le k C; omega

theorem ownsRow_up {w : World} {B C : Nat} {e : TypeId} {m : Nat} {v : Value} {n : Nat} {xs : List Value} (h : w.ownsRow B e m v n xs) (hc : C ≤ B) : w.ownsRow C e m v n xs := by
  obtain ⟨h1, h2⟩ := h
  refine ⟨h1, ?_⟩
  rcases h2 with h2 | ⟨g, cap, cur, hv, hg, r⟩
  · exact .inl h2
  · exact .inr ⟨g, cap, cur, hv, Nat.le_trans hc hg, r⟩
/-- What an append onto the call's own list keeps. -/
theorem out_grown {w W w1 : World} {n : Nat} {e : TypeId} {v : Value} {xs : List Value} {o ob : Obj} (hb : Below w.heap.size w W) (own : W.ownsRow (w.heap.size + 1) e 2 v n xs) (b0 : W.heap[w.heap.size]? = some ob) (hg : World.grownBy (W.alloc o) w1 v.ownBlock) :
    Below w.heap.size w w1 ∧ w1.heap[w.heap.size]? = some ob ∧ w.heap.size + 1 ≤ w1.heap.size := by
  have hl := blk_lt b0
  have h1 : Below (w.heap.size + 1) W w1 := ((Below.refl _ _).alloc (by omega) _).grown hg (by simp; omega) (fun k hk => (own.lt k hk).1)
  exact ⟨hb.trans (h1.mono (by omega)), (h1.block _ (by omega)).trans b0, by have := h1.size; omega⟩
theorem flatC_one (O : List Cel) (a b : Int) : flatC (O ++ [(a, b)]) = flatC O ++ [.int .i64 a, .int .i64 b] := by rw [flatC_append]; rfl

set_option maxRecDepth 100000 in
set_option maxHeartbeats 3200000 in
theorem with_any (v : Value) (C : List Cel) (x y : Int) (w : World) (h : RowAt w v C) (hl : C.length ≤ 1000000) :
    Calls Tryz.prog 32 #[v, .agg #[.int .i64 x, .int .i64 y]] w fun e w' => (∃ v', e = .returned v' ∧ w'.ownsRow w.heap.size 44 2 v' (withC C (x, y)).length (flatC (withC C (x, y)))) ∧ Below w.heap.size w w' := by
  obtain ⟨ad, cp, rfl⟩ := h.slice
  obtain ⟨i0, hi0, hz0, hz1, hz2⟩ := info_parts infoRC
  have heq := fun a b c d w => eqIn_rcell a b c d w
  have hnot : ∀ (x : Bool) (w : World), (Op.unary .not (.bool x)).run Tryz.prog w = .ok (.bool (!x)) w := fun _ _ => rfl
  go_enter Tryz.func32, Tryz.ntmps32
  go_wp2
  go_loopg [5, 6, 7] C.length (fun gm vo vd vi wr => ∃ (k : Nat) (D : Bool) (O : List Cel), k ≤ C.length ∧ gm = C.length - k ∧ vd = .bool D ∧ vi = .int .i64 (k : Int) ∧ wr.ownsRow (w.heap.size + 1) 44 2 vo O.length (flatC O) ∧ Below w.heap.size w wr ∧ wr.heap[w.heap.size]? = some (.cells #[.int .i64 x, .int .i64 y] 44 (0, 0)) ∧ Hid (WSt C (x, y) k D O))
  case atStart => exact ⟨0, false, [], Nat.zero_le _, rfl, rfl, rfl, World.ownsRow_nil _ _ _ _, (Below.refl _ _).alloc (Nat.le_refl _) _, blk_new w _, WSt.start C (x, y)⟩
  case round =>
    obtain ⟨k, D, O, hk, rfl, rfl, rfl, own, hb, b0, hst⟩ := hrel
    have c0 := cell_of b0 0
    have c1 := cell_of b0 1
    have hO := hst.out.len hk
    have hN := blk_lt b0
    by_cases hlt : k < C.length
    · have hdc : decide ((k : Int) < (C.length : Int)) = true := decide_eq_true (by omega)
      obtain ⟨⟨x', y'⟩, hs⟩ : ∃ s, C[k]? = some s := ⟨C[k], by simp [hlt]⟩
      obtain ⟨g, rfl, hg, hget⟩ := h.get hs
      obtain ⟨d0, d1⟩ := hget wr hb
      simp only at d0 d1
      have hgN : ¬ g = w.heap.size := by omega
      have hgl : g < wr.heap.size := by omega
      by_cases he : x' = x ∧ y' = y
      · obtain ⟨rfl, rfl⟩ := he
        have hbf : ¬ before (x', y') (x', y') := before_irr _
        cases D with
        | true =>
          have HS : Hid (WSt C (x', y') (k + 1) true (O ++ [(x', y')])) := hst.out.done hs
          clear hs hst
          go_wp2
          go_quiet (fail)
          go_wp2
          go_quiet (fail)
          go_wp2_with (at_builtin; refine wpList_append_own _ rfl _ _ 25 rfl (w.heap.size + 1) 44 i0 (.agg #[.int .i64 0, .int .i64 0]) 2 16 Tryz.underlying25 hi0 hz0 hz1 hz2 rfl (by decide) _ _ _ rfl (World.ownsRow.alloc (show (wr.drewN _).ownsRow _ _ _ _ _ _ from own) _) ⟨wr.heap.size, 0, none⟩ 1 1 [.int .i64 x', .int .i64 y'] rfl rfl (cell_two_new _ _ _ _) (by simp [Value.oneCell']) (by unfold maxLen; omega) (by omega) (by simp; omega) ?_; intro vw1 w1 own1 hg1 _)
          obtain ⟨hb1, b1, _⟩ := out_grown (W := wr.drewN _) (below_drewN hb _) own b0 hg1
          go_wp2
          go_roundg (C.length - (k + 1))
          case measure => omega
          case rel =>
            refine ⟨k + 1, true, O ++ [(x', y')], by omega, rfl, rfl, by go_num, ?_, hb1, b1, HS⟩
            rw [flatC_one, List.length_append]
            exact own1
        | false =>
          have HS : Hid (WSt C (x', y') (k + 1) true (O ++ [(x', y')])) := hst.out.same hs hbf rfl
          have hA := fun w => ahead_any x' y' x' y' w
          simp only [decide_eq_false hbf] at hA
          clear hs hst hbf
          go_wp2
          go_cut [23] from 14 to 23 (fun v23 wx => v23 = .bool false ∧ wx.ownsRow (w.heap.size + 1) 44 2 u5 O.length (flatC O) ∧ Below w.heap.size w wx ∧ wx.heap[w.heap.size]? = some (.cells #[.int .i64 x', .int .i64 y'] 44 (0, 0)))
          case first =>
            go_region_with (go_at_call 58; refine (hA _).mono ?_; rintro e w4 ⟨rfl, rfl⟩)
            all_goals
              go_wp2_with fail
              go_meet
              case rel => exact ⟨rfl, (own.alloc _).alloc _, ((hb.alloc hb.size _).alloc (by simp; omega) _).drew, blk_old (blk_old b0 _) _⟩
          case rest =>
            obtain ⟨rfl, own2, hb2, b2⟩ := hcut
            clear c0 c1 d0 d1 hgl hN own hb b0
            have c0 := cell_of b2 0
            have c1 := cell_of b2 1
            have hN := blk_lt b2
            obtain ⟨d0, d1⟩ := hget wc hb2
            try simp only at d0 d1
            have hgl : g < wc.heap.size := by omega
            go_wp2
            go_quiet (fail)
            go_wp2_with (at_builtin; refine wpList_append_own _ rfl _ _ 25 rfl (w.heap.size + 1) 44 i0 (.agg #[.int .i64 0, .int .i64 0]) 2 16 Tryz.underlying25 hi0 hz0 hz1 hz2 rfl (by decide) _ _ _ rfl (World.ownsRow.alloc (show (wc.drewN _).ownsRow _ _ _ _ _ _ from own2) _) ⟨wc.heap.size, 0, none⟩ 1 1 [.int .i64 x', .int .i64 y'] rfl rfl (cell_two_new _ _ _ _) (by simp [Value.oneCell']) (by unfold maxLen; omega) (by omega) (by simp; omega) ?_; intro vw5 w5 own5 hg5 _)
            obtain ⟨hb5, b5, _⟩ := out_grown (W := wc.drewN _) (below_drewN hb2 _) own2 b2 hg5
            go_wp2
            go_roundg (C.length - (k + 1))
            case measure => omega
            case rel =>
              refine ⟨k + 1, true, O ++ [(x', y')], by omega, rfl, rfl, by go_num, ?_, hb5, b5, HS⟩
              rw [flatC_one, List.length_append]
              exact own5
      · have hne : (x' == x && y' == y) = false := by simpa using he
        have hpe : ¬ (x', y') = (x, y) := by intro e; cases e; exact he ⟨rfl, rfl⟩
        cases D with
        | true =>
          have HS : Hid (WSt C (x, y) (k + 1) true (O ++ [(x', y')])) := hst.out.done hs
          clear hs hst he hpe
          go_wp2
          go_quiet (fail)
          go_wp2
          go_quiet (fail)
          go_wp2_with (at_builtin; refine wpList_append_own _ rfl _ _ 25 rfl (w.heap.size + 1) 44 i0 (.agg #[.int .i64 0, .int .i64 0]) 2 16 Tryz.underlying25 hi0 hz0 hz1 hz2 rfl (by decide) _ _ _ rfl (World.ownsRow.alloc (show (wr.drewN _).ownsRow _ _ _ _ _ _ from own) _) ⟨wr.heap.size, 0, none⟩ 1 1 [.int .i64 x', .int .i64 y'] rfl rfl (cell_two_new _ _ _ _) (by simp [Value.oneCell']) (by unfold maxLen; omega) (by omega) (by simp; omega) ?_; intro vw1 w1 own1 hg1 _)
          obtain ⟨hb1, b1, _⟩ := out_grown (W := wr.drewN _) (below_drewN hb _) own b0 hg1
          go_wp2
          go_roundg (C.length - (k + 1))
          case measure => omega
          case rel =>
            refine ⟨k + 1, true, O ++ [(x', y')], by omega, rfl, rfl, by go_num, ?_, hb1, b1, HS⟩
            rw [flatC_one, List.length_append]
            exact own1
        | false =>
          by_cases hbf : before (x, y) (x', y')
          · have HS : Hid (WSt C (x, y) (k + 1) true (O ++ [(x, y)] ++ [(x', y')])) := hst.out.ahead hs hbf
            have hA := fun w => ahead_any x y x' y' w
            simp only [decide_eq_true hbf] at hA
            clear hs hst hbf he hpe
            go_wp2
            go_cut [23] from 14 to 23 (fun v23 wx => v23 = .bool true ∧ wx.ownsRow (w.heap.size + 1) 44 2 u5 O.length (flatC O) ∧ Below w.heap.size w wx ∧ wx.heap[w.heap.size]? = some (.cells #[.int .i64 x, .int .i64 y] 44 (0, 0)))
            case first =>
              go_region_with (go_at_call 58; refine (hA _).mono ?_; rintro e w4 ⟨rfl, rfl⟩)
              all_goals
                go_wp2_with fail
                go_meet
                case rel => exact ⟨rfl, (own.alloc _).alloc _, ((hb.alloc hb.size _).alloc (by simp; omega) _).drew, blk_old (blk_old b0 _) _⟩
            case rest =>
              obtain ⟨rfl, own2, hb2, b2⟩ := hcut
              clear c0 c1 d0 d1 hgl hN own hb b0
              have c0 := cell_of b2 0
              have c1 := cell_of b2 1
              have hN := blk_lt b2
              obtain ⟨d0, d1⟩ := hget wc hb2
              try simp only at d0 d1
              have hgl : g < wc.heap.size := by omega
              go_wp2_with (at_builtin; refine wpList_append_own _ rfl _ _ 25 rfl (w.heap.size + 1) 44 i0 (.agg #[.int .i64 0, .int .i64 0]) 2 16 Tryz.underlying25 hi0 hz0 hz1 hz2 rfl (by decide) _ _ _ rfl (World.ownsRow.alloc (show (wc).ownsRow _ _ _ _ _ _ from own2) _) ⟨wc.heap.size, 0, none⟩ 1 1 [.int .i64 x, .int .i64 y] rfl rfl (cell_two_new _ _ _ _) (by simp [Value.oneCell']) (by unfold maxLen; omega) (by omega) (by simp; omega) ?_; intro vw5 w5 own5 hg5 _)
              obtain ⟨hb5, b5, _⟩ := out_grown hb2 own2 b2 hg5
              rw [← List.length_singleton (a := (x, y)), ← List.length_append, ← flatC_one] at own5
              clear c0 c1 d0 d1 hgl hN own2 hb2 b2
              have c0 := cell_of b5 0
              have c1 := cell_of b5 1
              have hN := blk_lt b5
              obtain ⟨d0, d1⟩ := hget w5 hb5
              try simp only at d0 d1
              have hgl : g < w5.heap.size := by omega
              have hO5 : (O ++ [(x, y)]).length ≤ k + 2 := by simp; omega
              go_wp2
              go_quiet (fail)
              go_wp2_with (at_builtin; refine wpList_append_own _ rfl _ _ 25 rfl (w.heap.size + 1) 44 i0 (.agg #[.int .i64 0, .int .i64 0]) 2 16 Tryz.underlying25 hi0 hz0 hz1 hz2 rfl (by decide) _ _ _ rfl (World.ownsRow.alloc (show (w5.drewN _).ownsRow _ _ _ _ _ _ from own5) _) ⟨w5.heap.size, 0, none⟩ 1 1 [.int .i64 x', .int .i64 y'] rfl rfl (cell_two_new _ _ _ _) (by simp [Value.oneCell']) (by unfold maxLen; omega) (by omega) (by simp; omega) ?_; intro vw6 w6 own6 hg6 _)
              obtain ⟨hb6, b6, _⟩ := out_grown (W := w5.drewN _) (below_drewN hb5 _) own5 b5 hg6
              go_wp2
              go_roundg (C.length - (k + 1))
              case measure => omega
              case rel =>
                refine ⟨k + 1, true, O ++ [(x, y)] ++ [(x', y')], by omega, rfl, rfl, by go_num, ?_, hb6, b6, HS⟩
                rw [flatC_one, List.length_append]
                exact own6
          · have HS : Hid (WSt C (x, y) (k + 1) false (O ++ [(x', y')])) := hst.out.on hs hbf hpe
            have hA := fun w => ahead_any x y x' y' w
            simp only [decide_eq_false hbf] at hA
            clear hs hst hbf he hpe
            go_wp2
            go_cut [23] from 14 to 23 (fun v23 wx => v23 = .bool false ∧ wx.ownsRow (w.heap.size + 1) 44 2 u5 O.length (flatC O) ∧ Below w.heap.size w wx ∧ wx.heap[w.heap.size]? = some (.cells #[.int .i64 x, .int .i64 y] 44 (0, 0)))
            case first =>
              go_region_with (go_at_call 58; refine (hA _).mono ?_; rintro e w4 ⟨rfl, rfl⟩)
              all_goals
                go_wp2_with fail
                go_meet
                case rel => exact ⟨rfl, (own.alloc _).alloc _, ((hb.alloc hb.size _).alloc (by simp; omega) _).drew, blk_old (blk_old b0 _) _⟩
            case rest =>
              obtain ⟨rfl, own2, hb2, b2⟩ := hcut
              clear c0 c1 d0 d1 hgl hN own hb b0
              have c0 := cell_of b2 0
              have c1 := cell_of b2 1
              have hN := blk_lt b2
              obtain ⟨d0, d1⟩ := hget wc hb2
              try simp only at d0 d1
              have hgl : g < wc.heap.size := by omega
              go_wp2
              go_quiet (fail)
              go_wp2_with (at_builtin; refine wpList_append_own _ rfl _ _ 25 rfl (w.heap.size + 1) 44 i0 (.agg #[.int .i64 0, .int .i64 0]) 2 16 Tryz.underlying25 hi0 hz0 hz1 hz2 rfl (by decide) _ _ _ rfl (World.ownsRow.alloc (show (wc.drewN _).ownsRow _ _ _ _ _ _ from own2) _) ⟨wc.heap.size, 0, none⟩ 1 1 [.int .i64 x', .int .i64 y'] rfl rfl (cell_two_new _ _ _ _) (by simp [Value.oneCell']) (by unfold maxLen; omega) (by omega) (by simp; omega) ?_; intro vw5 w5 own5 hg5 _)
              obtain ⟨hb5, b5, _⟩ := out_grown (W := wc.drewN _) (below_drewN hb2 _) own2 b2 hg5
              go_wp2
              go_roundg (C.length - (k + 1))
              case measure => omega
              case rel =>
                refine ⟨k + 1, false, O ++ [(x', y')], by omega, rfl, rfl, by go_num, ?_, hb5, b5, HS⟩
                rw [flatC_one, List.length_append]
                exact own5
    · have hdc : decide ((k : Int) < (C.length : Int)) = false := decide_eq_false (by omega)
      obtain rfl : k = C.length := by omega
      cases D with
      | true =>
        have HE : Hid (withC C (x, y) = O) := by show _ = _; rw [hst.out.end_]; rfl
        go_wp2
        go_ret
        refine ⟨⟨_, rfl, ?_⟩, hb⟩
        rw [HE.out]
        exact ownsRow_up own (by omega)
      | false =>
        have HE : Hid (withC C (x, y) = O ++ [(x, y)]) := by show _ = _; rw [hst.out.end_]; rfl
        go_wp2_with (at_builtin; refine wpList_append_own _ rfl _ _ 25 rfl (w.heap.size + 1) 44 i0 (.agg #[.int .i64 0, .int .i64 0]) 2 16 Tryz.underlying25 hi0 hz0 hz1 hz2 rfl (by decide) _ _ _ rfl (World.ownsRow.alloc (show (wr).ownsRow _ _ _ _ _ _ from own) _) ⟨wr.heap.size, 0, none⟩ 1 1 [.int .i64 x, .int .i64 y] rfl rfl (cell_two_new _ _ _ _) (by simp [Value.oneCell']) (by unfold maxLen; omega) (by omega) (by simp; omega) ?_; intro vw1 w1 own1 hg1 _)
        obtain ⟨hb1, b1, _⟩ := out_grown hb own b0 hg1
        go_wp2
        go_ret
        refine ⟨⟨_, rfl, ?_⟩, hb1⟩
        rw [HE.out, flatC_one, List.length_append]
        exact ownsRow_up own1 (by omega)

end Go.Proofs.YtiohpcnnpmnjhaaGreatDoor

namespace Go.Proofs.YtiohpcnnpmnjhaaGreatDoor
open Go.RowKit
set_option linter.unusedVariables false

theorem twoN_born (f g : Nat → Bool) (n : Nat) (h : n < 9) : (twoN f g)[n]? = some (.bool (f n)) := by
  match n, h with
  | 0, _ | 1, _ | 2, _ | 3, _ | 4, _ | 5, _ | 6, _ | 7, _ | 8, _ => rfl
theorem twoN_stay (f g : Nat → Bool) (n : Nat) (h : n < 9) : (twoN f g)[9 + n]? = some (.bool (g n)) := by
  match n, h with
  | 0, _ | 1, _ | 2, _ | 3, _ | 4, _ | 5, _ | 6, _ | 7, _ | 8, _ => rfl

/-- No number runs over near these cells. -/
def Mild (C : List Cel) : Prop := ∀ c ∈ C, -3900000000000000000 ≤ c.1 ∧ c.1 ≤ 3900000000000000000 ∧ -3900000000000000000 ≤ c.2 ∧ c.2 ≤ 3900000000000000000

/-- What Next has made when i cells are through and k of the nine around the next. -/
def soFar (f g : Nat → Bool) (C : List Cel) (i : Nat) (d : Cel) (k : Nat) : List Cel := ((C.take i).flatMap around ++ (around d).take k).foldl (addC f g C) []
theorem soFar_zero (f g : Nat → Bool) (C : List Cel) (i : Nat) (d : Cel) : soFar f g C i d 0 = ((C.take i).flatMap around).foldl (addC f g C) [] := by simp [soFar]
theorem around_len (d : Cel) : (around d).length = 9 := by simp [around]
theorem around_at (d : Cel) (k : Nat) (hk : k < 9) : (around d)[k]? = some (d.1 + ((k % 3 : Nat) : Int) - 1, d.2 + ((k / 3 : Nat) : Int) - 1) := by
  unfold around
  rw [List.getElem?_map, List.getElem?_range hk]
  rfl
theorem soFar_succ (f g : Nat → Bool) (C : List Cel) (i : Nat) (d : Cel) (k : Nat) (hk : k < 9) : soFar f g C i d (k + 1) = addC f g C (soFar f g C i d k) (d.1 + ((k % 3 : Nat) : Int) - 1, d.2 + ((k / 3 : Nat) : Int) - 1) := by
  unfold soFar
  rw [List.take_add_one, around_at d k hk]
  simp
theorem soFar_nine (f g : Nat → Bool) (C : List Cel) (i : Nat) (d : Cel) (h : C[i]? = some d) : soFar f g C i d 9 = ((C.take (i + 1)).flatMap around).foldl (addC f g C) [] := by
  unfold soFar
  rw [show C.take (i + 1) = C.take i ++ [d] by rw [List.take_add_one, h]; rfl, List.take_of_length_le (l := around d) (by rw [around_len]; omega)]
  simp
theorem soFar_len (f g : Nat → Bool) (C : List Cel) (i : Nat) (d : Cel) (k : Nat) (hk : k ≤ 9) : (soFar f g C i d k).length ≤ 9 * C.length + 9 := by
  unfold soFar
  have h1 := fold_len f g C ((C.take i).flatMap around ++ (around d).take k) []
  have h2 : ∀ l : List Cel, (l.flatMap around).length = 9 * l.length := fun l => by
    induction l with
    | nil => rfl
    | cons a l ih => rw [List.flatMap_cons, List.length_append, ih, around_len, List.length_cons]; omega
  rw [List.length_append, h2] at h1
  have h3 := List.length_take_le k (around d)
  have h4 := List.length_take_le' i C
  simp only [List.length_nil] at h1
  omega

/-- What the rounds of Next keep. -/
structure NInv (w : World) (f g : Nat → Bool) (O : List Cel) (vo : Value) (W : World) : Prop where
  own : W.ownsRow (w.heap.size + 1) 44 2 vo O.length (flatC O)
  box : W.heap[w.heap.size]? = some (.cells (twoN f g) 77 (0, 0))
  be : Below w.heap.size w W
theorem ownsRow_on {w w' : World} {B : Nat} {e : TypeId} {m : Nat} {v : Value} {n : Nat} {xs : List Value} (h : w.ownsRow B e m v n xs) (hb : Below w.heap.size w w') : w'.ownsRow B e m v n xs := by
  obtain ⟨h1, h2⟩ := h
  refine ⟨h1, ?_⟩
  rcases h2 with h2 | ⟨g, cap, cur, hv, hg, hh, r⟩
  · exact .inl h2
  · exact .inr ⟨g, cap, cur, hv, hg, (hb.block g (blk_lt hh)).trans hh, r⟩
theorem NInv.on {w : World} {f g : Nat → Bool} {O : List Cel} {vo : Value} {W W' : World} (h : NInv w f g O vo W) (hb : Below W.heap.size W W') : NInv w f g O vo W' :=
  ⟨ownsRow_on h.own hb, (hb.block _ (blk_lt h.box)).trans h.box, h.be.trans (hb.mono h.be.size)⟩
theorem NInv.drew {w : World} {f g : Nat → Bool} {O : List Cel} {vo : Value} {W : World} (h : NInv w f g O vo W) : NInv w f g O vo W.drew := ⟨h.own, h.box, h.be.drew⟩
theorem NInv.alloc {w : World} {f g : Nat → Bool} {O : List Cel} {vo : Value} {W : World} (h : NInv w f g O vo W) (o : Obj) : NInv w f g O vo (W.alloc o) := h.on ((Below.refl _ _).alloc (Nat.le_refl _) _)

set_option maxRecDepth 100000 in
set_option maxHeartbeats 3200000 in
theorem next_any (v : Value) (C : List Cel) (f g : Nat → Bool) (w : World) (h : RowAt w v C) (hl : C.length ≤ 1000) (hasc : Asc C) (hC : Mild C) :
    Calls Tryz.prog 44 #[.agg (twoN f g), v] w fun e w' => (∃ v', e = .returned v' ∧ w'.ownsRow w.heap.size 44 2 v' (nextL f g C).length (flatC (nextL f g C))) ∧ Below w.heap.size w w' := by
  obtain ⟨ad, cp, rfl⟩ := h.slice
  have hnot : ∀ (x : Bool) (w : World), (Op.unary .not (.bool x)).run Tryz.prog w = .ok (.bool (!x)) w := fun _ _ => rfl
  go_enter Tryz.func44, Tryz.ntmps44
  go_wp2
  go_loopw [5, 6] (fun vo vi wr => ∃ (i : Nat) (O : List Cel), i ≤ C.length ∧ vi = .int .i64 (i : Int) ∧ NInv w f g O vo wr ∧ Hid (O = ((C.take i).flatMap around).foldl (addC f g C) [])) (fun _ vi _ => C.length - (intOf vi).toNat)
  case atStart => exact ⟨0, [], Nat.zero_le _, rfl, ⟨World.ownsRow_nil _ _ _ _, blk_new w _, (Below.refl _ _).alloc (Nat.le_refl _) _⟩, by simp [Hid]⟩
  case round =>
    obtain ⟨i, O, hi, rfl, hI, hO⟩ := hrel
    by_cases hlt : i < C.length
    · have hdc : decide ((i : Int) < (C.length : Int)) = true := decide_eq_true (by omega)
      obtain ⟨⟨x, y⟩, hs⟩ : ∃ s, C[i]? = some s := ⟨C[i], by simp [hlt]⟩
      obtain ⟨gb, rfl, hg, hget⟩ := h.get hs
      obtain ⟨p1, p2, p3, p4⟩ := hC (x, y) (List.mem_of_getElem? hs)
      simp only at p1 p2 p3 p4
      have HO : Hid (O = soFar f g C i (x, y) 0) := by show _ = _; rw [soFar_zero]; exact hO.out
      have HZ : Hid (soFar f g C i (x, y) 9 = ((C.take (i + 1)).flatMap around).foldl (addC f g C) []) := soFar_nine f g C i (x, y) hs
      clear hs hO
      go_wp2
      go_loopw [5, 7] (fun vo vk wr => ∃ (k : Nat) (O : List Cel), k ≤ 9 ∧ vk = .int .i64 (k : Int) ∧ NInv w f g O vo wr ∧ Hid (O = soFar f g C i (x, y) k)) (fun _ vk _ => 9 - (intOf vk).toNat)
      case atStart => exact ⟨0, O, by omega, rfl, hI, HO⟩
      case round =>
        clear hI HO
        obtain ⟨k, O, hk, rfl, hI, hO⟩ := hrel
        have hOl : O.length ≤ 9 * C.length + 9 := by rw [hO.out]; exact soFar_len f g C i (x, y) k hk
        by_cases hk9 : k < 9
        · have hdk : decide ((k : Int) < 9) = true := decide_eq_true (by omega)
          have hki : (k : Int) < 9 := by omega
          obtain ⟨d0, d1⟩ := hget wr hI.be
          try simp only at d0 d1
          have hrem : (k : Int).tmod 3 = ((k % 3 : Nat) : Int) := by rw [Int.tmod_eq_emod_of_nonneg (by omega)]; omega
          have hquo : (k : Int).tdiv 3 = ((k / 3 : Nat) : Int) := by rw [Int.tdiv_eq_ediv_of_nonneg (by omega)]; omega
          have HS : Hid (soFar f g C i (x, y) (k + 1) = addC f g C O (x + ((k % 3 : Nat) : Int) - 1, y + ((k / 3 : Nat) : Int) - 1)) := by
            show _ = _; rw [soFar_succ f g C i (x, y) k hk9, ← hO.out]
          obtain ⟨a, ha⟩ : ∃ a : Nat, k % 3 = a := ⟨_, rfl⟩
          obtain ⟨b, hb'⟩ : ∃ b : Nat, k / 3 = b := ⟨_, rfl⟩
          have ha3 : a < 3 := by omega
          have hb3 : b < 3 := by omega
          rw [ha] at hrem HS
          rw [hb'] at hquo HS
          have hgl : gb < wr.heap.size := by have := hI.be.size; omega
          have hgN : ¬ gb = w.heap.size := by omega
          clear ha hb' hO
          go_wp2
          go_cut [8] from 21 to 39 (fun v8 wx => ∃ cb, v8 = .pointer (some ⟨cb, 0, none⟩) ∧ wx.heap[cb]? = some (.cells #[.int .i64 (x + (a : Int) - 1), .int .i64 (y + (b : Int) - 1)] 44 (0, 0)) ∧ NInv w f g O u5 wx)
          case first =>
            go_region
            all_goals
              go_wp2_with fail
              go_meet
              case rel => exact ⟨wr.heap.size, rfl, blk_new wr _, (hI.alloc _).drew⟩
          case rest =>
            obtain ⟨cb, rfl, hcb, hI2⟩ := hcut
            clear d0 d1 hI hgl hrem hquo
            have bx : -4000000000000000000 ≤ x + (a : Int) - 1 ∧ x + (a : Int) - 1 ≤ 4000000000000000000 := by omega
            have bY : -4000000000000000000 ≤ y + (b : Int) - 1 ∧ y + (b : Int) - 1 ≤ 4000000000000000000 := by omega
            obtain ⟨cx, hcx⟩ : ∃ cx, x + (a : Int) - 1 = cx := ⟨_, rfl⟩
            obtain ⟨cy, hcy⟩ : ∃ cy, y + (b : Int) - 1 = cy := ⟨_, rfl⟩
            rw [hcx] at bx hcb HS
            rw [hcy] at bY hcb HS
            have hC' : ∀ c ∈ C, -4000000000000000000 ≤ c.1 ∧ c.1 ≤ 4000000000000000000 ∧ -4000000000000000000 ≤ c.2 ∧ c.2 ≤ 4000000000000000000 := fun c hc => by have := hC c hc; omega
            have hNb := fun W hR => rneighbours_any (.slice (some ⟨gb, 0, none⟩) C.length cp) C cx cy W hR (by omega) bx bY hC'
            have hIn := fun W hR => in_any (.slice (some ⟨gb, 0, none⟩) C.length cp) C cx cy W hR (by omega)
            have hn8 := nbC_le hasc (cx, cy)
            have HL : Hid (livesC f g C (cx, cy) = if decide ((cx, cy) ∈ C) then g (nbC C (cx, cy)) else decide (0 < nbC C (cx, cy)) && f (nbC C (cx, cy))) := by
              show _ = _
              unfold livesC
              simp only [decide_eq_true_eq]
            obtain ⟨n, hn⟩ : ∃ n, nbC C (cx, cy) = n := ⟨_, rfl⟩
            obtain ⟨live, hlive⟩ : ∃ live, decide ((cx, cy) ∈ C) = live := ⟨_, rfl⟩
            rw [hn] at hn8 HL
            rw [hlive] at HL
            simp only [hn] at hNb
            simp only [hlive] at hIn
            have hrow : ∀ W, Below w.heap.size w W → RowAt W (.slice (some ⟨gb, 0, none⟩) C.length cp) C := fun W hb => by
              rcases h with ⟨h1, _⟩ | ⟨g', cap', h1, h2, h3⟩
              · cases h1
              · exact RowAt.below (.inr ⟨g', cap', h1, h2, h3⟩) hb
            have tf := twoN_born f g n (by omega)
            have tg := twoN_stay f g n (by omega)
            clear hn hlive hC hcx hcy h hget
            have q0 := cell_of hcb 0
            have q1 := cell_of hcb 1
            cases live with
            | true =>
              cases hgn : g n with
              | true =>
                have HV : Hid (livesC f g C (cx, cy) = true) := by show _ = _; rw [HL.out, hgn]; rfl
                rw [hgn] at tg
                clear hgn
                go_wp2_with (first
                  | (go_at_call 74; refine (hNb _ (hrow _ hI2.be)).mono ?_; rintro e w5 ⟨rfl, b5⟩; have I5 := hI2.on b5; have hcb5 := (b5.block cb (blk_lt hcb)).trans hcb; have q50 := cell_of hcb5 0; have q51 := cell_of hcb5 1)
                  | (go_at_call 75; refine (hIn _ (hrow _ I5.be)).mono ?_; rintro e w6 ⟨rfl, b6⟩; have I6 := I5.on b6; have hcb6 := (b6.block cb (blk_lt hcb5)).trans hcb5; have q60 := cell_of hcb6 0; have q61 := cell_of hcb6 1; have m1 := (cell_of I6.box n).trans tf; have m2 := (cell_of I6.box (9 + n)).trans tg)
                  | (go_at_call 32; refine (with_any _ O cx cy _ (RowAt.of_owns I6.own) (by omega)).mono ?_; rintro e w7 ⟨⟨v7, rfl, own7⟩, b7⟩))
                go_roundw
                case rel =>
                  have b7' := b7
                  refine ⟨k + 1, withC O (cx, cy), by omega, by go_num, ⟨ownsRow_up own7 (by have := blk_lt I6.box; omega), (b7.block _ (blk_lt I6.box)).trans I6.box, I6.be.trans (b7.mono I6.be.size)⟩, ?_⟩
                  show _ = _
                  rw [HS.out, addC, HV.out]
                  rfl
                case measure => simp [intOf]; omega
              | false =>
                have HV : Hid (livesC f g C (cx, cy) = false) := by show _ = _; rw [HL.out, hgn]; rfl
                rw [hgn] at tg
                clear hgn
                go_wp2_with (first
                  | (go_at_call 74; refine (hNb _ (hrow _ hI2.be)).mono ?_; rintro e w5 ⟨rfl, b5⟩; have I5 := hI2.on b5; have hcb5 := (b5.block cb (blk_lt hcb)).trans hcb; have q50 := cell_of hcb5 0; have q51 := cell_of hcb5 1)
                  | (go_at_call 75; refine (hIn _ (hrow _ I5.be)).mono ?_; rintro e w6 ⟨rfl, b6⟩; have I6 := I5.on b6; have hcb6 := (b6.block cb (blk_lt hcb5)).trans hcb5; have q60 := cell_of hcb6 0; have q61 := cell_of hcb6 1; have m1 := (cell_of I6.box n).trans tf; have m2 := (cell_of I6.box (9 + n)).trans tg))
                go_roundw
                case rel =>
                  refine ⟨k + 1, O, by omega, by go_num, I6, ?_⟩
                  show _ = _
                  rw [HS.out, addC, HV.out]
                  rfl
                case measure => simp [intOf]; omega
            | false =>
              by_cases hn0 : 0 < n
              · have hnd : decide ((0 : Int) < (n : Int)) = true := decide_eq_true (by omega)
                have hnd9 : decide ((n : Int) < 9) = true := decide_eq_true (by omega)
                cases hfn : f n with
                | true =>
                  have HV : Hid (livesC f g C (cx, cy) = true) := by show _ = _; rw [HL.out, hfn, decide_eq_true hn0]; rfl
                  rw [hfn] at tf
                  clear hfn
                  go_wp2_with (first
                    | (go_at_call 74; refine (hNb _ (hrow _ hI2.be)).mono ?_; rintro e w5 ⟨rfl, b5⟩; have I5 := hI2.on b5; have hcb5 := (b5.block cb (blk_lt hcb)).trans hcb; have q50 := cell_of hcb5 0; have q51 := cell_of hcb5 1)
                    | (go_at_call 75; refine (hIn _ (hrow _ I5.be)).mono ?_; rintro e w6 ⟨rfl, b6⟩; have I6 := I5.on b6; have hcb6 := (b6.block cb (blk_lt hcb5)).trans hcb5; have q60 := cell_of hcb6 0; have q61 := cell_of hcb6 1; have m1 := (cell_of I6.box n).trans tf; have m2 := (cell_of I6.box (9 + n)).trans tg)
                    | (go_at_call 32; refine (with_any _ O cx cy _ (RowAt.of_owns I6.own) (by omega)).mono ?_; rintro e w7 ⟨⟨v7, rfl, own7⟩, b7⟩))
                  go_roundw
                  case rel =>
                    have b7' := b7
                    refine ⟨k + 1, withC O (cx, cy), by omega, by go_num, ⟨ownsRow_up own7 (by have := blk_lt I6.box; omega), (b7.block _ (blk_lt I6.box)).trans I6.box, I6.be.trans (b7.mono I6.be.size)⟩, ?_⟩
                    show _ = _
                    rw [HS.out, addC, HV.out]
                    rfl
                  case measure => simp [intOf]; omega
                | false =>
                  have HV : Hid (livesC f g C (cx, cy) = false) := by show _ = _; rw [HL.out, hfn, decide_eq_true hn0]; rfl
                  rw [hfn] at tf
                  clear hfn
                  go_wp2_with (first
                    | (go_at_call 74; refine (hNb _ (hrow _ hI2.be)).mono ?_; rintro e w5 ⟨rfl, b5⟩; have I5 := hI2.on b5; have hcb5 := (b5.block cb (blk_lt hcb)).trans hcb; have q50 := cell_of hcb5 0; have q51 := cell_of hcb5 1)
                    | (go_at_call 75; refine (hIn _ (hrow _ I5.be)).mono ?_; rintro e w6 ⟨rfl, b6⟩; have I6 := I5.on b6; have hcb6 := (b6.block cb (blk_lt hcb5)).trans hcb5; have q60 := cell_of hcb6 0; have q61 := cell_of hcb6 1; have m1 := (cell_of I6.box n).trans tf; have m2 := (cell_of I6.box (9 + n)).trans tg))
                  go_roundw
                  case rel =>
                    refine ⟨k + 1, O, by omega, by go_num, I6, ?_⟩
                    show _ = _
                    rw [HS.out, addC, HV.out]
                    rfl
                  case measure => simp [intOf]; omega
              · have hnd : decide ((0 : Int) < (n : Int)) = false := decide_eq_false (by omega)
                have HV : Hid (livesC f g C (cx, cy) = false) := by show _ = _; rw [HL.out, decide_eq_false hn0]; rfl
                go_wp2_with (first
                  | (go_at_call 74; refine (hNb _ (hrow _ hI2.be)).mono ?_; rintro e w5 ⟨rfl, b5⟩; have I5 := hI2.on b5; have hcb5 := (b5.block cb (blk_lt hcb)).trans hcb; have q50 := cell_of hcb5 0; have q51 := cell_of hcb5 1)
                  | (go_at_call 75; refine (hIn _ (hrow _ I5.be)).mono ?_; rintro e w6 ⟨rfl, b6⟩; have I6 := I5.on b6; have hcb6 := (b6.block cb (blk_lt hcb5)).trans hcb5; have q60 := cell_of hcb6 0; have q61 := cell_of hcb6 1; have m1 := (cell_of I6.box n).trans tf; have m2 := (cell_of I6.box (9 + n)).trans tg))
                go_roundw
                case rel =>
                  refine ⟨k + 1, O, by omega, by go_num, I6, ?_⟩
                  show _ = _
                  rw [HS.out, addC, HV.out]
                  rfl
                case measure => simp [intOf]; omega
        · have hdk : decide ((k : Int) < 9) = false := decide_eq_false (by omega)
          obtain rfl : k = 9 := by omega
          have HQ : Hid (O = ((C.take (i + 1)).flatMap around).foldl (addC f g C) []) := hO.out.trans HZ.out
          go_wp2
          go_roundw
          case rel => exact ⟨i + 1, O, by omega, by go_num, hI, HQ⟩
          case measure => simp [intOf]; omega
    · have hdc : decide ((i : Int) < (C.length : Int)) = false := decide_eq_false (by omega)
      obtain rfl : i = C.length := by omega
      have HQ : Hid (nextL f g C = O) := by
        show _ = _
        rw [hO.out, List.take_length]; rfl
      go_wp2
      go_ret
      refine ⟨⟨_, rfl, ?_⟩, hI.be⟩
      rw [HQ.out]
      exact ownsRow_up hI.own (by omega)

end Go.Proofs.YtiohpcnnpmnjhaaGreatDoor
