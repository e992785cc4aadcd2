import Derived.Test.YtiohpcnnpmnjhaaGreatDoorOuSM
import Derived.Test.YtiohpcnnpmnjhaaGreatDoorArnM
import Derived.RangeFuncNested
import Derived.RangeFuncBound
import Derived.RangeFuncCalls
import Derived.RangeFuncLeaves
import Derived.RangeFuncBox
import Derived.Shelf.Abstract
import Derived.Shelf.RegionOpen
import Derived.OwnWalkIn
import Derived.TacticsInMore
import Derived.LoopNIn
import Derived.LoopIn
import Derived.Stop.RegionWithIn
import Derived.Sort.QuietIn
import Derived.Sort.BigQuietIn
namespace Go.Proofs.YtiohpcnnpmnjhaaGreatDoor
open Go.RowKit Go.Shelf
set_option linter.unusedVariables false
attribute [local go_sem] Oper.semAt_some

/-- A span there. -/
def okSeg (X0 Y0 : Int) (s : Span) : Prop := inWin X0 Y0 (s.1, s.2.1) ∧ 1 ≤ s.2.2 ∧ s.2.2 ≤ 100
abbrev Seg (X0 Y0 : Int) := { s : Span // okSeg X0 Y0 s }
def encSeg {X0 Y0 : Int} (s : Seg X0 Y0) : Array Value := #[.agg #[.int .i64 s.1.1, .int .i64 s.1.2.1, .int .i64 s.1.2.2]]

/-- What a round keeps: what lies below n, and the box b. -/
structure KpB (n b : Nat) (W W' : World) : Prop where
  be : Below n W W'
  bx : W'.heap[b]? = W.heap[b]?
theorem KpB.trans {n b : Nat} {X Y Z : World} (h : KpB n b X Y) (k : KpB n b Y Z) : KpB n b X Z := ⟨h.be.trans k.be, k.bx.trans h.bx⟩

/-- pre has come, k cells are through. -/
def Done {X0 Y0 : Int} (C : List Cel) (pre : List (Seg X0 Y0)) (k : Nat) : Prop := segs C = pre.map (·.1) ++ segs (C.drop k)

theorem done_step {X0 Y0 : Int} {C : List Cel} {pre : List (Seg X0 Y0)} {k m : Nat} {x y : Int} (h : Done C pre k) (hm : ∀ t : Nat, t < m + 1 → C[k + t]? = some (x + (t : Int), y)) (he : C[k + (m + 1)]? ≠ some (x + ((m + 1 : Nat) : Int), y))
    (s : Seg X0 Y0) (hs : s.1 = (x, y, ((m + 1 : Nat) : Int))) : Done C (pre ++ [s]) (k + (m + 1)) := by
  unfold Done at *
  rw [h, segs_run m (C.drop k) x y (fun t ht => by rw [List.getElem?_drop]; exact hm t ht) (by rw [List.getElem?_drop]; exact he)]
  simp [hs, List.drop_drop]

theorem done_step' {X0 Y0 : Int} {C : List Cel} {pre : List (Seg X0 Y0)} {k m : Nat} {x y : Int} (h : Done C pre k) (h1 : 1 ≤ m) (hm : ∀ t : Nat, t < m → C[k + t]? = some (x + (t : Int), y)) (he : C[k + m]? ≠ some (x + (m : Int), y))
    (s : Seg X0 Y0) (hs : s.1 = (x, y, (m : Int))) : Done C (pre ++ [s]) (k + m) := by
  obtain ⟨m', rfl⟩ : ∃ m', m = m' + 1 := ⟨m - 1, by omega⟩
  exact done_step h hm he s hs

theorem eqIn_cells (a b c d : Int) (w : World) : (Op.equalIn 10000 113 (.agg #[.int .i64 a, .int .i64 b]) (.agg #[.int .i64 c, .int .i64 d])).run Tryz.prog w = .ok (a == c && b == d) w := by
  have u3 := Tryz.underlying3
  have a3 := Tryz.isAgg3
  have z3 := Tryz.sizeOf3
  rw [show (10000 : Nat) = 9999 + 1 from rfl, Op.equalIn]
  simp only [Sem.run_bind, run_underlying Tryz.underlying113, Result.andThen_ok]
  simp only [Std.Legacy.Range.forIn_eq_forIn_range', Std.Legacy.Range.size, Nat.sub_zero, Nat.add_sub_cancel, Nat.div_one, List.range'_succ, List.range'_zero, List.forIn_cons, List.forIn_nil]
  go_simp
  by_cases h1 : a = c <;> by_cases h2 : b = d <;> simp [h1, h2]


/-- The span grows by one; behind's two boxes lie above it. -/
theorem in_heap {w W' : World} {sb : Nat} {x y : Int} {m : Nat} {t : TypeId} {o1 o2 : Obj} (h : w.heap[sb]? = some (.cells #[.int .i64 x, .int .i64 y, .int .i64 (m : Int)] t (0, 0)))
    (hW : W'.heap = ((w.setCell ⟨sb, 2, none⟩ (.int .i64 ((m : Int) + 1))).heap.push o1).push o2) : W'.heap[sb]? = some (.cells #[.int .i64 x, .int .i64 y, .int .i64 ((m + 1 : Nat) : Int)] t (0, 0)) := by
  have hl : sb < w.heap.size := (Array.getElem?_eq_some_iff.1 h).1
  have h1 := heap_setCell_same w sb 2 _ t (.int .i64 ((m : Int) + 1)) h
  rw [hW, Array.getElem?_push, if_neg (by simp [World.setCell]; omega), Array.getElem?_push, if_neg (by simp [World.setCell]; omega), h1]
  simp
theorem in_below {Wk w W' : World} {sb : Nat} {v : Value} {o1 o2 : Obj} (h : Below sb Wk w) (hl : sb < w.heap.size) (h1 : W'.os = w.os) (h2 : W'.tape = w.tape) (h3 : W'.output = w.output)
    (hW : W'.heap = ((w.setCell ⟨sb, 2, none⟩ v).heap.push o1).push o2) : Below sb Wk W' := by
  refine h.trans ⟨h1, h2, h3, by rw [hW]; simp [World.setCell]; omega, fun k hk => ?_⟩
  rw [hW, Array.getElem?_push, if_neg (by simp [World.setCell]; omega), Array.getElem?_push, if_neg (by simp [World.setCell]; omega), Below.heap_setCell _ _ _ _ (by simp; omega)]

set_option maxRecDepth 100000 in
set_option maxHeartbeats 1600000 in
theorem spans1_in (n : Nat) (hn : 2 ≤ n) (l Bs n₀ g cap : Nat) (X0 Y0 : Int) (C : List Cel) (hC : ∀ c ∈ C, inWin X0 Y0 c) (hX : -3000000000000000000 ≤ X0) (hX' : X0 ≤ 3000000000000000000) (hl : C.length ≤ 100) (hg : g < n₀)
    (J Jx : List (Seg X0 Y0) → World → Prop) (W : World) (hJ : AbidesFrom W.heap.size J)
    (hY : ∀ pre x W1, J pre W1 → pre.length < C.length → YieldAt Fence.wide (n - 1) Tryz.prog l (encSeg x) W1 fun e W' => (e = .returned (.bool true) ∧ J (pre ++ [x]) W' ∧ KpB n₀ Bs W1 W') ∨ (e = .returned (.bool false) ∧ Jx (pre ++ [x]) W'))
    (hn0 : n₀ ≤ W.heap.size) (hBs : W.heap[Bs]? = some (.cells #[.slice (some ⟨g, 0, none⟩) C.length cap] 71 (0, 0))) (hc : CellsAt W g C) (h0 : J [] W) :
    CallsIn Fence.wide n Tryz.prog 98 #[.func (.yield l) #[] #[], .pointer (some ⟨Bs, 0, none⟩)] W fun e W' => (∃ v, e = .returned v) ∧ ((∃ xs, xs.map (·.1) = segs C ∧ J xs W') ∨ (∃ pre, Jx pre W')) := by
  have h1n : 1 ≤ n := by omega
  have hnot : ∀ (x : Bool) (w : World), (Op.unary .not (.bool x)).run Tryz.prog w = .ok (.bool (!x)) w := fun _ _ => rfl
  refine callsIn_of_wp Tryz.func98 rfl trivial ?_ rfl
  simp only [Tryz.ntmps98, List.size_toArray, List.length_cons, List.length_nil, Nat.reduceAdd, Nat.reduceSub, Array.replicate_succ, Array.replicate_zero, List.push_toArray, List.append_toArray, List.nil_append, List.cons_append]
  gi_wp2
  gi_loopw [3] (fun i wr => ∃ (k : Nat) (pre : List (Seg X0 Y0)), k ≤ C.length ∧ i = .int .i64 k ∧ pre.length ≤ k ∧ J pre wr ∧ KpB n₀ Bs W wr ∧ Hid (Done C pre k) ∧ W.heap.size ≤ wr.heap.size) (fun i _ => C.length - (intOf i).toNat)
  case atStart => exact ⟨0, [], Nat.zero_le _, rfl, Nat.zero_le _, h0, ⟨Below.refl _ _, rfl⟩, by simp [Hid, Done], Nat.le_refl _⟩
  case round =>
    obtain ⟨k, pre, hk, rfl, hpk, hJs, hkp, hd, hsz⟩ := hrel
    have hbx := hkp.bx.trans hBs
    have cB : wr.cell? ⟨Bs, 0, none⟩ = some (.slice (some ⟨g, 0, none⟩) C.length cap) := by simp [World.cell?, hbx]
    by_cases hlt : k < C.length
    · obtain ⟨⟨x, y⟩, hs⟩ : ∃ s, C[k]? = some s := ⟨C[k], by simp [hlt]⟩
      obtain ⟨d0, d1⟩ := (hc.below hkp.be hg).get k _ hs
      simp only at d0 d1
      have hw := hC (x, y) (List.mem_of_getElem? hs)
      have heq := fun a b c d w => eqIn_cells a b c d w
      obtain ⟨Wk, rfl⟩ : ∃ Wk, Wk = wr := ⟨_, rfl⟩
      obtain ⟨sb, hsb⟩ : ∃ sb, Wk.heap.size = sb := ⟨_, rfl⟩
      have hBsb : Bs < sb := by rw [← hsb]; exact (Array.getElem?_eq_some_iff.1 hbx).1
      have hgsb : g < sb := by omega
      have hcW := hc.below hkp.be hg
      gi_wp2
      gi_loopw [3] (fun i wy => ∃ m : Nat, k + m ≤ C.length ∧ i = .int .i64 ((k : Int) + (m : Int)) ∧ Hid (∀ t : Nat, t < m → C[k + t]? = some (x + (t : Int), y)) ∧ wy.heap[sb]? = some (.cells #[.int .i64 x, .int .i64 y, .int .i64 (m : Int)] 121 (0, 0)) ∧ Below sb Wk wy) (fun i _ => C.length - (intOf i).toNat)
      case atStart =>
        refine ⟨0, by omega, by simp, fun t ht => by omega, ?_, (Below.refl _ _).alloc (by omega) _⟩
        rw [← hsb]; exact World.alloc_heap_new Wk _
      case round =>
        obtain ⟨m, hm, rfl, hrun, hsp, hby⟩ := hrel
        have f0 : wr.cell? ⟨sb, 0, none⟩ = some (.int .i64 x) := by simp [World.cell?, hsp]
        have f1 : wr.cell? ⟨sb, 1, none⟩ = some (.int .i64 y) := by simp [World.cell?, hsp]
        have f2 : wr.cell? ⟨sb, 2, none⟩ = some (.int .i64 (m : Int)) := by simp [World.cell?, hsp]
        have f3 : wr.frozen? ⟨sb, 2, none⟩ = false := by simp [World.frozen?, hsp]
        have cBy : wr.cell? ⟨Bs, 0, none⟩ = some (.slice (some ⟨g, 0, none⟩) C.length cap) := (hby.cell (p := ⟨Bs, 0, none⟩) hBsb).trans cB
        have hsbl : sb < wr.heap.size := (Array.getElem?_eq_some_iff.1 hsp).1
        have hgw : g < wr.heap.size := by omega
        have hBw : Bs < wr.heap.size := by omega
        clear d0 d1 cB
        by_cases hlt2 : k + m < C.length
        · obtain ⟨⟨x', y'⟩, hs'⟩ : ∃ s, C[k + m]? = some s := ⟨C[k + m], by simp [hlt2]⟩
          obtain ⟨d0, d1⟩ := (hcW.below hby hgsb).get (k + m) _ hs'
          simp only at d0 d1
          have hdc : decide ((k : Int) + (m : Int) < (C.length : Int)) = true := by simp; omega
          have hB := fun w => callsIn_wide (n := n - 1).2 (behind_any x y (m : Int) w (by have := hw.1; simp at this; omega) (by have := hw.2.1; simp at this; omega) (by omega) (by omega))
          by_cases he : x' = x + (m : Int) ∧ y' = y
          · obtain ⟨rfl, rfl⟩ := he
            gi_wp2
            gi_region_with (refine ⟨trivial, ?_⟩; gi_at_call 70; refine (hB _).mono ?_; rintro e w1 ⟨rfl, rfl⟩)
            all_goals gi_wp2
            all_goals
              go_roundw
              case rel =>
                refine ⟨m + 1, by omega, by go_num, ?_, in_heap hsp rfl, in_below hby hsbl rfl rfl rfl rfl⟩
                intro t ht
                by_cases e : t = m
                · subst e; exact hs'
                · exact hrun.out t (by omega)
              case measure => simp [intOf]; omega
          · have hne : (x' == x + (m : Int) && y' == y) = false := by simpa using he
            have hm0 : m ≠ 0 := by
              intro e; subst e
              simp at hs'
              rw [hs] at hs'
              simp at hs'
              exact he ⟨by simp [hs'.1], hs'.2.symm⟩
            have hnx : C[k + m]? ≠ some (x + (m : Int), y) := by
              intro e; rw [hs'] at e; simp at e; exact he e
            have hbz : Below sb Wk (((wr.alloc (.cells #[.int .i64 x, .int .i64 y, .int .i64 (m : Int)] 121)).alloc (.cells #[.int .i64 (x + (m : Int)), .int .i64 y] 113)).drew) := ((hby.alloc (by omega) _).alloc (by simp; omega) _).drew
            have hok : okSeg X0 Y0 (x, y, (m : Int)) := ⟨hw, by simp; omega, by simp; omega⟩
            obtain ⟨fn, tmps, assign, body, hy, hR⟩ := hY pre ⟨(x, y, (m : Int)), hok⟩ _ (hJ pre Wk _ none hJs (grown_of_below (by rw [hsb]; exact hbz)) (fun r e => by cases e)) (by omega)
            have hdn := done_step' hd.out (by omega) hrun.out hnx ⟨(x, y, (m : Int)), hok⟩ rfl
            have HD : Hid (Done C (pre ++ [⟨(x, y, (m : Int)), hok⟩]) (k + m)) := hdn
            clear hdn hnx he
            dsimp only [encSeg] at hy
            gi_wp2
            gi_region_with (refine ⟨trivial, ?_⟩; gi_at_call 70; refine (hB _).mono ?_; rintro e w1 ⟨rfl, rfl⟩)
            all_goals gi_wp2
            all_goals
              refine hR.mono ?_
              rintro e W3 (⟨rfl, hJ3, hk3⟩ | ⟨rfl, hJx3⟩)
              · gi_wp2
                go_roundw
                case rel => exact ⟨k + m, _, by omega, by go_num, by simp; omega, hJ3, hkp.trans (KpB.trans ⟨hbz.mono (by omega), hbz.block Bs hBsb⟩ hk3), HD.out, by have := hbz.size; have := hk3.be.size; omega⟩
                case measure => simp [intOf]; omega
              · gi_wp2
                refine bodyPost_ret (results_none rfl _ _ _) rfl ?_
                exact ⟨⟨_, rfl⟩, .inr ⟨_, hJx3⟩⟩
        · have hm0 : m ≠ 0 := by omega
          have hnx : C[k + m]? ≠ some (x + (m : Int), y) := by
            rw [List.getElem?_eq_none (by omega)]; simp
          have hdc : decide ((k : Int) + (m : Int) < (C.length : Int)) = false := by simp; omega
          have hok : okSeg X0 Y0 (x, y, (m : Int)) := ⟨hw, by simp; omega, by simp; omega⟩
          have hdn := done_step' hd.out (by omega) hrun.out hnx ⟨(x, y, (m : Int)), hok⟩ rfl
          have HD : Hid (Done C (pre ++ [⟨(x, y, (m : Int)), hok⟩]) (k + m)) := hdn
          clear hdn hnx
          gi_wp2
          refine wpIn_region_quiet_lit rfl (by kernel_rfl) (by kernel_rfl) ?_
          repeat (gi_big_quiet_step (fail))
          refine BigFrame.wpQuietIn_skip ?ask rfl ?_
          case ask => intro w hw f hf; trivial
          simp only [Act.put, List.setIfInBounds_toArray, List.set_cons_succ, List.set_cons_zero]
          repeat (gi_big_quiet_step (fail))
          refine wpQuietIn_nil ?_
          intro _ hw'
          obtain ⟨nq, hw''⟩ := hw'
          subst hw''
          have hbz : Below sb Wk (wr.drewN nq) := below_drewN hby nq
          obtain ⟨fn, tmps, assign, body, hy, hR⟩ := hY pre ⟨(x, y, (m : Int)), hok⟩ _ (hJ pre Wk _ none hJs (grown_of_below (by rw [hsb]; exact hbz)) (fun r e => by cases e)) (by omega)
          dsimp only [encSeg] at hy
          all_goals gi_wp2
          all_goals
            refine hR.mono ?_
            rintro e W3 (⟨rfl, hJ3, hk3⟩ | ⟨rfl, hJx3⟩)
            · gi_wp2
              go_roundw
              case rel => exact ⟨k + m, _, by omega, by go_num, by simp; omega, hJ3, hkp.trans (KpB.trans ⟨hbz.mono (by omega), hbz.block Bs hBsb⟩ hk3), HD.out, by have := hbz.size; have := hk3.be.size; omega⟩
              case measure => simp [intOf]; omega
            · gi_wp2
              refine bodyPost_ret (results_none rfl _ _ _) rfl ?_
              exact ⟨⟨_, rfl⟩, .inr ⟨_, hJx3⟩⟩
    · have hk' : k = C.length := by omega
      subst hk'
      have hend : pre.map (·.1) = segs C := by
        have := hd.out
        unfold Done at this
        rw [List.drop_length] at this
        simpa [segs] using this.symm
      have HE : Hid (pre.map (·.1) = segs C) := hend
      clear hend
      gi_wp2
      go_end0
      exact ⟨⟨_, rfl⟩, .inl ⟨pre, HE.out, hJs⟩⟩

end Go.Proofs.YtiohpcnnpmnjhaaGreatDoor
