import Derived.Test.YtiohpcnnpmnjhaaGreatDoorFrmM
import Derived.Test.YtiohpcnnpmnjhaaGreatDoorArnM
import Derived.Test.YtiohpcnnpmnjhaaGreatDoorStoM
import Derived.Test.YtiohpcnnpmnjhaaGreatDoorLfbM
import Derived.Test.YtiohpcnnpmnjhaaGreatDoorBotM
namespace Go.Proofs.YtiohpcnnpmnjhaaGreatDoor
open Go.RowKit Go.Shelf
set_option linter.unusedVariables false
attribute [local go_sem] Oper.semAt_some

/-- Is one of the cells too far out? -/
def farL (C : List Cel) : Bool := C.any fun c => farB c.1 c.2
/-- What the rounds leave. -/
def FaInv (w : World) (v : Value) (pre : List Cel) (W : World) : Prop :=
  W.heap[w.heap.size]? = some (.cells #[.bool false] 4 (0, 0)) ∧ W.heap[w.heap.size + 1]? = some (.cells #[v] 71 (0, 0)) ∧ W.heap[w.heap.size + 2]? = some (.cells #[.int .i64 0, .int .i64 0] 113 (0, 0)) ∧ Below w.heap.size w W ∧ farL pre = false
def FaEnd (w : World) (pre : List Cel) (W : World) : Prop :=
  W.heap[w.heap.size]? = some (.cells #[.bool true] 4 (0, 0)) ∧ Below w.heap.size w W ∧ farL pre = true

set_option maxRecDepth 100000 in
set_option maxHeartbeats 1600000 in
theorem patFar_in (a : Option Addr) (cap g : Nat) (C : List Cel) (w : World) (hrow : C = [] ∨ (a = some ⟨g, 0, none⟩ ∧ CellsAt w g C)) (hg : C = [] ∨ g < w.heap.size) (hl : C.length ≤ 1000000) (hF : Fits 0 0 C) :
    CallsIn Fence.wide 5 Tryz.prog 73 #[.slice a C.length cap] w fun e w' => e = .returned (.bool (farL C)) ∧ Below w.heap.size w w' := by
  refine callsIn_of_wp_marks Tryz.func73 rfl trivial ?_ rfl
  simp only [Tryz.ntmps73, List.size_toArray, List.length_cons, List.length_nil, Nat.reduceAdd, Nat.reduceSub, Array.replicate_succ, Array.replicate_zero, List.push_toArray, List.append_toArray, List.nil_append, List.cons_append]
  gi_wp2_with (refine ⟨trivial, ?_⟩; gi_at_call 96; refine (callsIn_wide.2 (cells_any a C.length cap _)).mono ?_; rintro e w1 ⟨rfl, rfl⟩)
  have t0 := blk_old (blk_old (blk_new w (.cells #[.bool false] 4)) (.cells #[.slice a C.length cap] 71)) (.cells #[.int .i64 0, .int .i64 0] 113)
  have t1 := blk_old (blk_new (w.alloc (.cells #[.bool false] 4)) (.cells #[.slice a C.length cap] 71)) (.cells #[.int .i64 0, .int .i64 0] 113)
  have t2 := blk_new ((w.alloc (.cells #[.bool false] 4)).alloc (.cells #[.slice a C.length cap] 71)) (.cells #[.int .i64 0, .int .i64 0] 113)
  simp only [World.size_alloc, Nat.add_assoc, Nat.reduceAdd] at t1 t2
  have hB3 : Below w.heap.size w (((w.alloc (.cells #[.bool false] 4)).alloc (.cells #[.slice a C.length cap] 71)).alloc (.cells #[.int .i64 0, .int .i64 0] 113)) := (((Below.refl _ _).alloc (Nat.le_refl _) _).alloc (by simp) _).alloc (by simp; omega) _
  have hs3 : w.heap.size + 3 ≤ (((w.alloc (.cells #[.bool false] 4)).alloc (.cells #[.slice a C.length cap] 71)).alloc (.cells #[.int .i64 0, .int .i64 0] 113)).heap.size := by simp
  obtain ⟨G, hG0, hG1⟩ : ∃ G, G < w.heap.size + 1 ∧ (C = [] ∨ (a = some ⟨G, 0, none⟩ ∧ CellsAt w G C ∧ G < w.heap.size)) := by
    rcases hrow with rfl | ⟨h1, h2⟩
    · exact ⟨w.heap.size, by omega, .inl rfl⟩
    · rcases hg with rfl | hg
      · exact ⟨w.heap.size, by omega, .inl rfl⟩
      · exact ⟨g, by omega, .inr ⟨h1, h2, hg⟩⟩
  have hG2 : C = [] ∨ (a = some ⟨G, 0, none⟩ ∧ CellsAt (((w.alloc (.cells #[.bool false] 4)).alloc (.cells #[.slice a C.length cap] 71)).alloc (.cells #[.int .i64 0, .int .i64 0] 113)) G C ∧ G < (((w.alloc (.cells #[.bool false] 4)).alloc (.cells #[.slice a C.length cap] 71)).alloc (.cells #[.int .i64 0, .int .i64 0] 113)).heap.size) := by
    rcases hG1 with h | ⟨h1, h2, h3⟩
    · exact .inl h
    · exact .inr ⟨h1, h2.below hB3 h3, by omega⟩
  clear hrow hg
  generalize (((w.alloc (.cells #[.bool false] 4)).alloc (.cells #[.slice a C.length cap] 71)).alloc (.cells #[.int .i64 0, .int .i64 0] 113)) = W3 at *
  refine wpIn_rangeFunc_ownH (encs := fun c : OfC 0 0 C => encC c.1) (N := C.length) (S := fun xs : List (OfC 0 0 C) => xs.map (·.1) = C.map (sh 0 0)) (Sp := fun pre : List (OfC 0 0 C) => pre.map (·.1) <+: C.map (sh 0 0)) (Kp := KpG G (w.heap.size + 1)) rfl (by omega) (gf := 131) (lb := #[.pointer (some ⟨w.heap.size + 1, 0, none⟩), .pointer (some ⟨w.heap.size + 1 + 1, 0, none⟩)]) rfl trivial (enters_of Tryz.func131 (by kernel_rfl) rfl) ?seq KpG.trans ?kb (Below.refl _ _) (fun _ => rfl)
    (fun pre W => G < W.heap.size ∧ FaInv w (.slice a C.length cap) (pre.map (·.1)) W)
    (fun c pre W => c = .ret ∧ FaEnd w (pre.map (·.1)) W) ?hI ?hIx ?h0
    (fun c a' W => ∃ Bx, W.heap[Bx]? = some (.cells #[.int .i64 c.1.1, .int .i64 c.1.2] 113 (0, 0)) ∧ w.heap.size + 2 < Bx ∧ a' = { tmps := #[.slice a C.length cap, undef, .pointer (some ⟨w.heap.size, 0, none⟩), .pointer (some ⟨Bx, 0, none⟩), .slice a C.length cap, .func (.func 131) #[] #[.pointer (some ⟨w.heap.size + 1, 0, none⟩), .pointer (some ⟨w.heap.size + 1 + 1, 0, none⟩)], .agg #[.int .i64 c.1.1, .int .i64 c.1.2], undef, undef], defers := [] }) ?hAx ?assign ?body ?done ?stop
  case seq => exact movedG_stops 4 (by omega) a cap (w.heap.size + 1) G 0 0 C W3 hG2 hl hF t1 t2
  case kb =>
    intro W l o o' hlt hl2 ho hw
    exact ⟨World.putObj_heap_other (by omega), World.putObj_heap_other (by omega), World.putObj_heap_other (by omega), by simp⟩
  case hI =>
    rintro pre W W' row ⟨h0, h1, h2, h3, h4, h5⟩ hgr hr
    exact ⟨Nat.lt_of_lt_of_le h0 hgr.size, keepc h1 hgr hr, keepc h2 hgr hr, keepc h3 hgr hr, keepw h4 (Nat.le_refl _) hB3.size hgr hr, h5⟩
  case hIx =>
    rintro c pre W W' row ⟨rfl, h1, h2, h3⟩ hgr hr
    exact ⟨rfl, keepc h1 hgr hr, keepw h2 (Nat.le_refl _) hB3.size hgr hr, h3⟩
  case h0 => exact ⟨by omega, t0, t1, t2, hB3, rfl⟩
  case hAx =>
    rintro c a' _ W W' row ⟨Bx, hx, hne, ha⟩ hgr hr
    exact ⟨Bx, keepc hx hgr hr, hne, ha⟩
  case assign =>
    rintro l pre ⟨c, hc⟩ W K ⟨h0, h1, h2, h3, h4, h5⟩ hK
    simp only [encC]
    gi_wp2
    exact hK _ _ ((KeepsOthers.alloc _ _).from _) ⟨Below.heap_alloc W _ _ h0, Below.heap_alloc W _ _ (blk_lt h2), Below.heap_alloc W _ _ (blk_lt h3), by simp⟩ ⟨by simp; omega, blk_old h1 _, blk_old h2 _, blk_old h3 _, h4.alloc h4.size _, h5⟩ ⟨W.heap.size, blk_new W _, blk_lt h3, rfl⟩
  case body =>
    rintro l pre ⟨⟨px, py⟩, hp⟩ a' W hl0 hlr ⟨h0, h1, h2, h3, h4, h5⟩ ⟨Bx, ex, hne, rfl⟩ hpl
    simp only at ex
    have x0 := cell_of ex 0
    have x1 := cell_of ex 1
    have H5 : Hid (farL (pre.map (·.1)) = false) := h5
    have HP : Hid ((pre ++ [(⟨(px, py), hp⟩ : OfC 0 0 C)]).map (·.1) = pre.map (·.1) ++ [(px, py)]) := by show _ = _; simp
    have hfa := fun w => isFar_any px py w
    have h1' := blk_old h1 (.cells #[.int .i64 px, .int .i64 py] 113)
    have o0 := cell_of h1' 0
    have o1 := frz_of h1' 0
    clear h5
    cases hf : farB px py with
    | false =>
      rw [hf] at hfa
      gi_wp2_with (refine ⟨trivial, ?_⟩; gi_at_call 91; refine (CallsIn.inRound l (callsIn_wide.2 (hfa _))).mono ?_; rintro e w1 ⟨rfl, rfl⟩)
      refine ⟨(KeepsOthers.alloc _ _).from _, ⟨Below.heap_alloc W _ _ h0, Below.heap_alloc W _ _ (blk_lt h2), Below.heap_alloc W _ _ (blk_lt h3), by simp⟩, ⟨by simp; omega, h1', blk_old h2 _, blk_old h3 _, h4.alloc h4.size _, ?_⟩⟩
      rw [HP.out]
      have := H5.out
      unfold farL at *
      simp [this, hf]
    | true =>
      rw [hf] at hfa
      gi_wp2_with (refine ⟨trivial, ?_⟩; gi_at_call 91; refine (CallsIn.inRound l (callsIn_wide.2 (hfa _))).mono ?_; rintro e w1 ⟨rfl, rfl⟩)
      refine ⟨((KeepsOthers.alloc _ _).trans (KeepsOthers.setCell _ _ _)).from _, rfl, blk_put (j := 0) h1' _, (h4.alloc h4.size _).setCell (p := ⟨w.heap.size, 0, none⟩) (Nat.le_refl _) _, ?_⟩
      rw [HP.out]
      unfold farL
      simp [hf]
  case done =>
    rintro D xs W hD hS ⟨h0, h1, h2, h3, h4, h5⟩ hK
    have HV : Hid (farL C = false) := by
      show _ = _
      rw [hS, sh_zero, List.map_id] at h5
      exact h5
    have o0 := cell_of h1 0
    have o1 := frz_of h1 0
    clear h5 hS
    gi_wp2
    have v1 := blk_put (j := 0) h1 (.bool false)
    have hKD := blk_set (a := ⟨w.heap.size, 0, none⟩) hK (by show D ≠ w.heap.size; omega) (.bool false)
    have hBe := h4.setCell (p := ⟨w.heap.size, 0, none⟩) (Nat.le_refl _) (.bool false)
    obtain ⟨W2, hW2⟩ : ∃ W2, W.setCell ⟨w.heap.size, 0, none⟩ (.bool false) = W2 := ⟨_, rfl⟩
    rw [hW2] at v1 hKD hBe ⊢
    refine ⟨by simp, .inl ⟨_, _, rfl, run_takeDeferred hKD, ?_⟩⟩
    have w4 : (W2.putObj D (.deferred none)).heap[w.heap.size]? = some (.cells #[.bool false] 4 (0, 0)) := (World.putObj_heap_other (by omega)).trans v1
    have g0 := cell_of w4 0
    refine ⟨.bool false, by simp [results, Tryz.results73, go_sem, g0], by rw [HV.out], hBe.trans ?_⟩
    exact ⟨rfl, rfl, rfl, by simp, fun k hk => World.putObj_heap_other (by omega)⟩
  case stop =>
    rintro D c pre W hD hs ⟨rfl, h1, h2, h3⟩ hK
    have HV : Hid (farL C = true) := by
      show _ = _
      obtain ⟨r, hr⟩ := hs
      have e : farL C = farL (pre.map (·.1) ++ r) := by rw [hr, sh_zero, List.map_id]
      rw [e]
      unfold farL at *
      rw [List.any_append, h3, Bool.true_or]
    clear hs h3
    gi_wp2
    refine ⟨by simp, .inl ⟨_, _, rfl, run_takeDeferred hK, ?_⟩⟩
    have w4 : (W.putObj D (.deferred none)).heap[w.heap.size]? = some (.cells #[.bool true] 4 (0, 0)) := (World.putObj_heap_other (by omega)).trans h1
    have g0 := cell_of w4 0
    refine ⟨.bool true, by simp [results, Tryz.results73, go_sem, g0], by rw [HV.out], h2.trans ?_⟩
    exact ⟨rfl, rfl, rfl, by simp, fun k hk => World.putObj_heap_other (by omega)⟩

theorem patFar_any (B : Nat) (v : Value) (C : List Cel) (w : World) (h : w.ownsRow B 113 2 v C.length (flatC C)) (hl : C.length ≤ 1000000) (hF : Fits 0 0 C) :
    Calls Tryz.prog 73 #[v] w fun e w' => e = .returned (.bool (farL C)) ∧ Below w.heap.size w w' := by
  rcases cells_cases h with ⟨rfl, rfl⟩ | ⟨g, cap, rfl, hS, hg⟩
  · exact callsIn_wide.1 (patFar_in none 0 0 [] w (.inl rfl) (.inl rfl) hl hF)
  · exact callsIn_wide.1 (patFar_in _ cap g C w (.inr ⟨rfl, hS⟩) (.inr hg) hl hF)

end Go.Proofs.YtiohpcnnpmnjhaaGreatDoor

namespace Go.Proofs.YtiohpcnnpmnjhaaGreatDoor
open Go.RowKit Go.Shelf
set_option linter.unusedVariables false
attribute [local go_sem] Oper.semAt_some

theorem keeps_append {W w1 : World} {B e m n : Nat} {v : Value} {xs : List Value} (own : W.ownsRow B e m v n xs) (hg : W.grownBy w1 v.ownBlock) : KeepsOthers W w1 :=
  ⟨hg.size, fun k o hk ho => (hg.block k (Array.getElem?_eq_some_iff.1 hk).1 (fun h => by
    rcases own.2 with ⟨rfl, _⟩ | ⟨g', cap, cur, rfl, _, hh, _⟩
    · cases h
    · have := Option.some.inj h
      simp only at this
      rw [← this, hk] at hh
      cases hh
      cases ho)).trans hk⟩
theorem keepr {W W' : World} {row : Option Nat} {B N e m n : Nat} {v : Value} {xs : List Value} (h : W.ownsRow N e m v n xs) (hg : W.grownBy W' row) (hr : ∀ r, row = some r → B ≤ r ∧ ∃ o : Obj, W.heap[r]? = some o ∧ o.isCells = false) : W'.ownsRow N e m v n xs := by
  obtain ⟨h1, h2⟩ := h
  refine ⟨h1, ?_⟩
  rcases h2 with h2 | ⟨g, cap, cur, hv, hgb, hh, r⟩
  · exact .inl h2
  · exact .inr ⟨g, cap, cur, hv, hgb, keepc hh hg hr, r⟩
theorem grown_setC (w : World) (S j : Nat) (u : Value) : w.grownBy (w.setCell ⟨S, j, none⟩ u) (some S) := ⟨rfl, rfl, rfl, by simp [World.setCell], fun k _ hk => Below.heap_setCell w ⟨S, j, none⟩ u k (fun e => hk (by rw [e]))⟩
theorem flatC_snoc (C : List Cel) (x y : Int) : flatC (C ++ [(x, y)]) = flatC C ++ [.int .i64 x, .int .i64 y] := by rw [flatC_append]; rfl

/-- What the rounds leave: the box of the slice so far, the iterator's boxes. -/
def KInv (w : World) (pre : List Cel) (W : World) : Prop :=
  ∃ a n c, W.heap[w.heap.size]? = some (.cells #[.slice a n c] 70 (0, 0)) ∧ W.ownsRow w.heap.size 113 2 (.slice a n c) pre.length (flatC pre) ∧ Below w.heap.size w W

set_option maxRecDepth 100000 in
set_option maxHeartbeats 1600000 in
theorem appendSeq_in (a : Option Addr) (cap G b : Nat) (dx dy : Int) (C : List Cel) (w : World) (hb1 : w.heap[b]? = some (.cells #[.slice a C.length cap] 71 (0, 0))) (hb2 : w.heap[b + 1]? = some (.cells #[.int .i64 dx, .int .i64 dy] 113 (0, 0)))
    (hG : C = [] ∨ (a = some ⟨G, 0, none⟩ ∧ CellsAt w G C ∧ G < w.heap.size)) (hGl : G < w.heap.size) (hl : C.length ≤ 1000000) (hF : Fits dx dy C) :
    CallsIn Fence.wide 5 Tryz.prog 130 #[.slice none 0 0, .func (.func 131) #[] #[.pointer (some ⟨b, 0, none⟩), .pointer (some ⟨b + 1, 0, none⟩)]] w
      fun e w' => (∃ v, e = .returned v ∧ w'.ownsRow w.heap.size 113 2 v C.length (flatC (C.map (sh dx dy)))) ∧ Below w.heap.size w w' := by
  obtain ⟨i0, hi, hz0, hz1, hz2⟩ := info_parts infoCell
  have hbl : b + 1 < w.heap.size := blk_lt hb2
  refine callsIn_of_wp_marks Tryz.func130 rfl trivial ?_ rfl
  simp only [Tryz.ntmps130, List.size_toArray, List.length_cons, List.length_nil, Nat.reduceAdd, Nat.reduceSub, Array.replicate_succ, Array.replicate_zero, List.push_toArray, List.append_toArray, List.nil_append, List.cons_append]
  gi_wp2
  have hB1 : Below w.heap.size w (w.alloc (.cells #[.slice none 0 0] 70)) := (Below.refl _ _).alloc (Nat.le_refl _) _
  have t0 := blk_new w (.cells #[.slice none 0 0] 70)
  have t1 := blk_old hb1 (.cells #[.slice none 0 0] 70)
  have t2 := blk_old hb2 (.cells #[.slice none 0 0] 70)
  have hs1 : w.heap.size + 1 ≤ (w.alloc (.cells #[.slice none 0 0] 70)).heap.size := by simp
  have hG2 : C = [] ∨ (a = some ⟨G, 0, none⟩ ∧ CellsAt (w.alloc (.cells #[.slice none 0 0] 70)) G C ∧ G < (w.alloc (.cells #[.slice none 0 0] 70)).heap.size) := by
    rcases hG with h | ⟨h1, h2, h3⟩
    · exact .inl h
    · exact .inr ⟨h1, h2.below hB1 h3, by omega⟩
  clear hG
  generalize (w.alloc (.cells #[.slice none 0 0] 70)) = W1 at *
  refine wpIn_rangeFunc_ownH (encs := fun c : OfC dx dy C => encC c.1) (N := C.length) (S := fun xs : List (OfC dx dy C) => xs.map (·.1) = C.map (sh dx dy)) (Sp := fun pre : List (OfC dx dy C) => pre.map (·.1) <+: C.map (sh dx dy)) (Kp := KpG G b) rfl (by omega) (gf := 131) (lb := #[.pointer (some ⟨b, 0, none⟩), .pointer (some ⟨b + 1, 0, none⟩)]) rfl trivial (enters_of Tryz.func131 (by kernel_rfl) rfl) ?seq KpG.trans ?kb (Below.refl _ _) (fun _ => rfl)
    (fun pre W => KInv w (pre.map (·.1)) W)
    (fun _ _ _ => False) ?hI (fun _ _ _ _ _ h _ _ => h) ?h0
    (fun c a' W => ∃ Bx, W.heap[Bx]? = some (.cells #[.int .i64 c.1.1, .int .i64 c.1.2] 113 (0, 0)) ∧ w.heap.size < Bx ∧ a' = { tmps := #[.slice none 0 0, .func (.func 131) #[] #[.pointer (some ⟨b, 0, none⟩), .pointer (some ⟨b + 1, 0, none⟩)], .pointer (some ⟨w.heap.size, 0, none⟩), undef, .slice none 0 0, .pointer (some ⟨Bx, 0, none⟩), .func (.func 131) #[] #[.pointer (some ⟨b, 0, none⟩), .pointer (some ⟨b + 1, 0, none⟩)], .agg #[.int .i64 c.1.1, .int .i64 c.1.2], undef, undef, undef, undef, undef], defers := [] }) ?hAx ?assign ?body ?done ?stop
  case seq => exact movedG_stops 4 (by omega) a cap b G dx dy C W1 hG2 hl hF t1 t2
  case kb =>
    intro W l o o' hlt hl2 ho hw
    exact ⟨World.putObj_heap_other (by omega), World.putObj_heap_other (by omega), World.putObj_heap_other (by omega), by simp⟩
  case hI =>
    rintro pre W W' row ⟨a1, n1, c1, h1, h2, h3⟩ hgr hr
    exact ⟨a1, n1, c1, keepc h1 hgr hr, keepr h2 hgr hr, keepw h3 (Nat.le_refl _) hB1.size hgr hr⟩
  case h0 => exact ⟨none, 0, 0, t0, World.ownsRow_nil _ _ _ _, hB1⟩
  case hAx =>
    rintro c a' _ W W' row ⟨Bx, hx, hne, ha⟩ hgr hr
    exact ⟨Bx, keepc hx hgr hr, hne, ha⟩
  case assign =>
    rintro l pre ⟨c, hc⟩ W K ⟨a1, n1, c1, h1, h2, h3⟩ hK
    have hWs : w.heap.size < W.heap.size := blk_lt h1
    simp only [encC]
    gi_wp2
    exact hK _ _ ((KeepsOthers.alloc _ _).from _) ⟨Below.heap_alloc W _ _ (by omega), Below.heap_alloc W _ _ (by omega), Below.heap_alloc W _ _ (by omega), by simp⟩ ⟨a1, n1, c1, blk_old h1 _, h2.alloc _, h3.alloc h3.size _⟩ ⟨W.heap.size, blk_new W _, hWs, rfl⟩
  case body =>
    rintro l pre ⟨⟨px, py⟩, hp⟩ a' W hl0 hlr ⟨a1, n1, c1, h1, own, h3⟩ ⟨Bx, ex, hne, rfl⟩ hpl
    simp only at ex
    have hWs : w.heap.size < W.heap.size := blk_lt h1
    have x0 := cell_of ex 0
    have x1 := cell_of ex 1
    have y0 := cell_of h1 0
    have hpm : (pre.map (·.1)).length = pre.length := List.length_map ..
    rw [hpm] at own
    have HP : Hid ((pre ++ [(⟨(px, py), hp⟩ : OfC dx dy C)]).map (·.1) = pre.map (·.1) ++ [(px, py)]) := by show _ = _; simp
    have HPM : Hid ((pre.map (·.1)).length = pre.length) := hpm
    clear hpm
    obtain ⟨F0, hF0⟩ : ∃ F0, flatC (pre.map (·.1)) = F0 := ⟨_, rfl⟩
    rw [hF0] at own
    have HF0 : Hid (flatC (pre.map (·.1)) = F0) := hF0
    clear hF0
    gi_wp2_with (gi_at_builtin; refine wpListIn_append_own _ rfl _ _ 70 rfl w.heap.size 113 i0 (.agg #[.int .i64 0, .int .i64 0]) 2 16 Tryz.underlying70 hi hz0 hz1 hz2 rfl (by decide) _ _ _ rfl (own.alloc _) ⟨W.heap.size, 0, none⟩ 1 1 [.int .i64 px, .int .i64 py] rfl rfl (cell_two_new _ _ _ _) (by simp [Value.oneCell']) (by unfold maxLen; omega) (by omega) (by simp; omega) ?_; intro v' w1 own1 hgr _
                 obtain ⟨a2, c2, rfl⟩ := row_slice own1
                 have g1 := other_kept (own.alloc _) hgr (blk_old h1 _) (by decide)
                 have k1 := ((KeepsOthers.alloc W _).trans (keeps_append (own.alloc _) hgr))
                 have hb1 := (h3.alloc (by omega) _).grown hgr (by simp; omega) (fun k hk => (own.lt k hk).1)
                 have o0 := cell_of g1 0
                 have o1 := frz_of g1 0)
    have g2 := blk_put (j := 0) g1 (.slice a2 (pre.length + 1) c2)
    have hb2' := hb1.setCell (p := ⟨w.heap.size, 0, none⟩) (Nat.le_refl _) (.slice a2 (pre.length + 1) c2)
    have hKp : Below w.heap.size W (w1.setCell ⟨w.heap.size, 0, none⟩ (.slice a2 (pre.length + 1) c2)) := ⟨hb2'.os.trans h3.os.symm, hb2'.tape.trans h3.tape.symm, hb2'.output.trans h3.output.symm, Nat.le_trans k1.size (by simp [World.setCell]), fun k hk => (hb2'.block k hk).trans (h3.block k hk).symm⟩
    refine ⟨(k1.trans (KeepsOthers.setCell _ _ _)).from _, ⟨hKp.block _ hGl, hKp.block _ (by omega), hKp.block _ hbl, hKp.size⟩, ⟨a2, _, c2, g2, ?_, hb2'⟩⟩
    rw [HP.out, List.length_append, HPM.out, flatC_snoc, HF0.out]
    refine own1.kept (grown_setC _ w.heap.size 0 _) (Or.inr fun e => ?_)
    rcases own1.2 with ⟨hn, _⟩ | ⟨g', cap', cur', hv, _, hh, _⟩
    · cases hn
    · cases hv
      have := Option.some.inj e
      simp only at this
      rw [this, g1] at hh
      cases hh
  case done =>
    rintro D xs W hD hS ⟨a1, n1, c1, h1, own, h3⟩ hK
    have y0 := cell_of h1 0
    have HO : Hid (W.ownsRow w.heap.size 113 2 (.slice a1 n1 c1) C.length (flatC (C.map (sh dx dy)))) := by
      show World.ownsRow _ _ _ _ _ _ _
      rw [hS, List.length_map] at own
      exact own
    clear own hS
    gi_wp2
    refine ⟨by simp, .inl ⟨_, _, rfl, run_takeDeferred hK, ?_⟩⟩
    refine ⟨.slice a1 n1 c1, by simp [results, Tryz.results130], ⟨_, rfl, ?_⟩, h3.trans ⟨rfl, rfl, rfl, by simp, fun k hk => World.putObj_heap_other (by omega)⟩⟩
    refine HO.out.kept (row := some D) ⟨rfl, rfl, rfl, by simp, fun k _ hk => World.putObj_heap_other (fun e => hk (by rw [e]))⟩ (Or.inr fun e => ?_)
    rcases HO.out.2 with ⟨hn, _⟩ | ⟨g', cap', cur', hv, _, hh, _⟩
    · cases hn; cases e
    · cases hv
      have := Option.some.inj e
      simp only at this
      rw [this, hK] at hh
      cases hh
  case stop =>
    intro D c pre W hD hs hx
    exact hx.elim

set_option maxHeartbeats 400000 in
/-- slices.Collect over a pattern's cells, moved. -/
theorem collect_any (a : Option Addr) (cap G b : Nat) (dx dy : Int) (C : List Cel) (w : World) (hb1 : w.heap[b]? = some (.cells #[.slice a C.length cap] 71 (0, 0))) (hb2 : w.heap[b + 1]? = some (.cells #[.int .i64 dx, .int .i64 dy] 113 (0, 0)))
    (hG : C = [] ∨ (a = some ⟨G, 0, none⟩ ∧ CellsAt w G C ∧ G < w.heap.size)) (hGl : G < w.heap.size) (hl : C.length ≤ 1000000) (hF : Fits dx dy C) :
    Calls Tryz.prog 112 #[.func (.func 131) #[] #[.pointer (some ⟨b, 0, none⟩), .pointer (some ⟨b + 1, 0, none⟩)]] w
      fun e w' => (∃ v, e = .returned v ∧ w'.ownsRow w.heap.size 113 2 v C.length (flatC (C.map (sh dx dy)))) ∧ Below w.heap.size w w' := by
  have hA := callsIn_wide.1 (appendSeq_in a cap G b dx dy C w hb1 hb2 hG hGl hl hF)
  go_enter Tryz.func112, Tryz.ntmps112
  go_wp2_with (go_at_call 130; refine hA.mono ?_; rintro e w1 ⟨⟨v, rfl, own⟩, b1⟩)
  go_ret
  exact ⟨⟨_, rfl, own⟩, b1⟩

end Go.Proofs.YtiohpcnnpmnjhaaGreatDoor

namespace Go.Proofs.YtiohpcnnpmnjhaaGreatDoor
open Go.RowKit Go.Shelf
set_option linter.unusedVariables false
attribute [local go_sem] Oper.semAt_some

theorem ownsRow_lowA {w : World} {B B' e m n : Nat} {v : Value} {xs : List Value} (h : w.ownsRow B e m v n xs) (hb : B' ≤ B) : w.ownsRow B' e m v n xs := by
  obtain ⟨h1, h2⟩ := h
  refine ⟨h1, ?_⟩
  rcases h2 with h2 | ⟨g, cap, cur, hv, hgb, r⟩
  · exact .inl h2
  · exact .inr ⟨g, cap, cur, hv, Nat.le_trans hb hgb, r⟩

set_option maxRecDepth 100000 in
set_option maxHeartbeats 1600000 in
theorem at_in (gg ng cg j : Nat) (a : Option Addr) (cap G : Nat) (p q dx dy n m1 m2 : Int) (D : List Cel) (w : World) (hgg : gg < w.heap.size) (hcell : w.cell? ⟨gg, j, none⟩ = some (.slice a D.length cap)) (hj : j < ng)
    (hG : D = [] ∨ (a = some ⟨G, 0, none⟩ ∧ CellsAt w G D ∧ G < w.heap.size)) (hGl : G < w.heap.size) (hl : D.length ≤ 1000000) (hF : Fits m1 m2 D)
    (hp : 0 ≤ p ∧ p ≤ 200) (hq : 1 ≤ q ∧ q ≤ 200) (hn : p ≤ n ∧ n ≤ 1000000000000000000) (HJ : Hid (p + (n - p) % q = (j : Int))) (HM1 : Hid ((n - p) / q * dx = m1)) (HM2 : Hid ((n - p) / q * dy = m2)) (hm1 : -9223372036854775808 ≤ m1 ∧ m1 ≤ 9223372036854775807) (hm2 : -9223372036854775808 ≤ m2 ∧ m2 ≤ 9223372036854775807) :
    CallsIn Fence.wide 5 Tryz.prog 99 #[.agg #[.slice (some ⟨gg, 0, none⟩) ng cg, .int .i64 p, .int .i64 q, .int .i64 dx, .int .i64 dy], .int .i64 n] w
      fun e w' => (∃ v, e = .returned v ∧ w'.ownsRow w.heap.size 113 2 v D.length (flatC (D.map (sh m1 m2)))) ∧ Below w.heap.size w w' := by
  have hq0 : (q == 0) = false := by have : ¬ q = 0 := by omega
                                    simpa using this
  obtain ⟨k, hk⟩ : ∃ k, (n - p) / q = k := ⟨_, rfl⟩
  obtain ⟨r, hr⟩ : ∃ r, (n - p) % q = r := ⟨_, rfl⟩
  rw [hk] at HM1 HM2
  rw [hr] at HJ
  have hwx : IntKind.i64.wrap (k * dx) = m1 := by rw [HM1.out]; simp [IntKind.wrap, IntKind.bits, IntKind.signed]; omega
  have hwy : IntKind.i64.wrap (k * dy) = m2 := by rw [HM2.out]; simp [IntKind.wrap, IntKind.bits, IntKind.signed]; omega
  have hr0 : 0 ≤ r ∧ r < 200 := by rw [← hr]; exact ⟨Int.emod_nonneg _ (by omega), by have := Int.emod_lt_of_pos (n - p) (b := q) (by omega); omega⟩
  refine callsIn_of_wp Tryz.func99 rfl trivial ?_ rfl
  simp only [Tryz.ntmps99, List.size_toArray, List.length_cons, List.length_nil, Nat.reduceAdd, Nat.reduceSub, Array.replicate_succ, Array.replicate_zero, List.push_toArray, List.append_toArray, List.nil_append, List.cons_append]
  gi_wp2
  gi_quiet (fail)
  gi_wp2
  have e0 : (((w.alloc (.cells #[.slice (some ⟨gg, 0, none⟩) ng cg, .int .i64 p, .int .i64 q, .int .i64 dx, .int .i64 dy] 90)).drewN nq).alloc (.cells #[.int .i64 m1, .int .i64 m2] 113)).heap[w.heap.size]? = some (.cells #[.slice (some ⟨gg, 0, none⟩) ng cg, .int .i64 p, .int .i64 q, .int .i64 dx, .int .i64 dy] 90 (0, 0)) := by
    have h0 : ((w.alloc (.cells #[.slice (some ⟨gg, 0, none⟩) ng cg, .int .i64 p, .int .i64 q, .int .i64 dx, .int .i64 dy] 90)).drewN nq).heap[w.heap.size]? = some (.cells #[.slice (some ⟨gg, 0, none⟩) ng cg, .int .i64 p, .int .i64 q, .int .i64 dx, .int .i64 dy] 90 (0, 0)) := blk_new w _
    exact blk_old h0 _
  have e1 : (((w.alloc (.cells #[.slice (some ⟨gg, 0, none⟩) ng cg, .int .i64 p, .int .i64 q, .int .i64 dx, .int .i64 dy] 90)).drewN nq).alloc (.cells #[.int .i64 m1, .int .i64 m2] 113)).heap[w.heap.size + 1]? = some (.cells #[.int .i64 m1, .int .i64 m2] 113 (0, 0)) := by
    have h0 := blk_new ((w.alloc (.cells #[.slice (some ⟨gg, 0, none⟩) ng cg, .int .i64 p, .int .i64 q, .int .i64 dx, .int .i64 dy] 90)).drewN nq) (.cells #[.int .i64 m1, .int .i64 m2] 113)
    have h1 : ((w.alloc (.cells #[.slice (some ⟨gg, 0, none⟩) ng cg, .int .i64 p, .int .i64 q, .int .i64 dx, .int .i64 dy] 90)).drewN nq).heap.size = w.heap.size + 1 := World.size_alloc _ _
    rwa [h1] at h0
  have be : Below w.heap.size w (((w.alloc (.cells #[.slice (some ⟨gg, 0, none⟩) ng cg, .int .i64 p, .int .i64 q, .int .i64 dx, .int .i64 dy] 90)).drewN nq).alloc (.cells #[.int .i64 m1, .int .i64 m2] 113)) := by
    have h0 : Below w.heap.size w ((w.alloc (.cells #[.slice (some ⟨gg, 0, none⟩) ng cg, .int .i64 p, .int .i64 q, .int .i64 dx, .int .i64 dy] 90)).drewN nq) := by
      have := (Below.refl w.heap.size w).alloc (Nat.le_refl _) (.cells #[.slice (some ⟨gg, 0, none⟩) ng cg, .int .i64 p, .int .i64 q, .int .i64 dx, .int .i64 dy] 90)
      exact ⟨this.os, this.tape, this.output, this.size, this.block⟩
    exact h0.alloc h0.size _
  generalize (((w.alloc (.cells #[.slice (some ⟨gg, 0, none⟩) ng cg, .int .i64 p, .int .i64 q, .int .i64 dx, .int .i64 dy] 90)).drewN nq).alloc (.cells #[.int .i64 m1, .int .i64 m2] 113)) = W2 at *
  have c2 : W2.cell? ⟨gg, j, none⟩ = some (.slice a D.length cap) := (World.cell?_of_block (be.block _ hgg)).trans hcell
  subst hr
  clear hk hwx hwy hq0 hcell
  refine wpIn_region_any (by kernel_rfl) (wpAnyC.any (C := fun W => W.heap[w.heap.size]? = some (.cells #[.slice (some ⟨gg, 0, none⟩) ng cg, .int .i64 p, .int .i64 q, .int .i64 dx, .int .i64 dy] 90 (0, 0)) ∧ W.heap[w.heap.size + 1]? = some (.cells #[.int .i64 m1, .int .i64 m2] 113 (0, 0)) ∧ W.cell? ⟨gg, j, none⟩ = some (.slice a D.length cap)) ?_)
  change wpAnyC _ _ _ _ _ _ _ _ _ _ (World.drew _)
  have hC : W2.drew.heap[w.heap.size]? = some (.cells #[.slice (some ⟨gg, 0, none⟩) ng cg, .int .i64 p, .int .i64 q, .int .i64 dx, .int .i64 dy] 90 (0, 0)) ∧ W2.drew.heap[w.heap.size + 1]? = some (.cells #[.int .i64 m1, .int .i64 m2] 113 (0, 0)) ∧ W2.drew.cell? ⟨gg, j, none⟩ = some (.slice a D.length cap) := ⟨e0, e1, c2⟩
  have hji : (j : Int) < (ng : Int) := by omega
  have HWJ : Hid (IntKind.i64.wrap (p + (n - p) % q) = (j : Int)) := by
    have h := HJ.out
    show _ = _
    rw [h]; simp [IntKind.wrap, IntKind.bits, IntKind.signed]; omega
  refine wpAnyC_take (i := 0) (v := (.pointer (some ⟨w.heap.size, 0, none⟩) : Value)) hC rfl rfl (by kernel_rfl) (by kernel_rfl) (by kernel_rfl) (fun _ _ _ h => h) ⟨by rfl, fun W hW => ⟨rfl, by obtain ⟨k0, k1, k2⟩ := hW; have a0 := cell_of k0 0; have a1 := cell_of k0 1; have a2 := cell_of k1 0; have a3 := cell_of k1 1; go_simp⟩⟩ ?_
  refine wpAnyC_take (i := 1) (v := (.slice (some ⟨gg, 0, none⟩) ng cg : Value)) hC rfl rfl (by kernel_rfl) (by kernel_rfl) (by kernel_rfl) (fun _ _ _ h => h) ⟨by rfl, fun W hW => ⟨rfl, by obtain ⟨k0, k1, k2⟩ := hW; have a0 := cell_of k0 0; have a1 := cell_of k0 1; have a2 := cell_of k1 0; have a3 := cell_of k1 1; go_simp⟩⟩ ?_
  refine wpAnyC_take (i := 2) (v := (.pointer (some ⟨w.heap.size, 1, none⟩) : Value)) hC rfl rfl (by kernel_rfl) (by kernel_rfl) (by kernel_rfl) (fun _ _ _ h => h) ⟨by rfl, fun W hW => ⟨rfl, by obtain ⟨k0, k1, k2⟩ := hW; have a0 := cell_of k0 0; have a1 := cell_of k0 1; have a2 := cell_of k1 0; have a3 := cell_of k1 1; go_simp⟩⟩ ?_
  refine wpAnyC_take (i := 3) (v := (.pointer (some ⟨w.heap.size, 1, none⟩) : Value)) hC rfl rfl (by kernel_rfl) (by kernel_rfl) (by kernel_rfl) (fun _ _ _ h => h) ⟨by rfl, fun W hW => ⟨rfl, by obtain ⟨k0, k1, k2⟩ := hW; have a0 := cell_of k0 0; have a1 := cell_of k0 1; have a2 := cell_of k1 0; have a3 := cell_of k1 1; go_simp⟩⟩ ?_
  refine wpAnyC_take (i := 4) (v := (.int .i64 p : Value)) hC rfl rfl (by kernel_rfl) (by kernel_rfl) (by kernel_rfl) (fun _ _ _ h => h) ⟨by rfl, fun W hW => ⟨rfl, by obtain ⟨k0, k1, k2⟩ := hW; have a0 := cell_of k0 0; have a1 := cell_of k0 1; have a2 := cell_of k1 0; have a3 := cell_of k1 1; go_simp⟩⟩ ?_
  refine wpAnyC_take (i := 5) (v := (.int .i64 ((n - p) % q) : Value)) hC rfl rfl (by kernel_rfl) (by kernel_rfl) (by kernel_rfl) (fun _ _ _ h => h) ⟨by rfl, fun W hW => ⟨rfl, by obtain ⟨k0, k1, k2⟩ := hW; have a0 := cell_of k0 0; have a1 := cell_of k0 1; have a2 := cell_of k1 0; have a3 := cell_of k1 1; go_simp⟩⟩ ?_
  refine wpAnyC_take (i := 6) (v := (.int .i64 (j : Int) : Value)) hC rfl rfl (by kernel_rfl) (by kernel_rfl) (by kernel_rfl) (fun _ _ _ h => h) ⟨by rfl, fun W hW => ⟨rfl, by have hJ : IntKind.i64.wrap (p + (n - p) % q) = (j : Int) := HWJ.out; go_simp⟩⟩ ?_
  refine wpAnyC_take (i := 7) (v := (.pointer (some ⟨gg, j, none⟩) : Value)) hC rfl rfl (by kernel_rfl) (by kernel_rfl) (by kernel_rfl) (fun _ _ _ h => h) ⟨by rfl, fun W hW => ⟨rfl, by obtain ⟨k0, k1, k2⟩ := hW; have a0 := cell_of k0 0; have a1 := cell_of k0 1; have a2 := cell_of k1 0; have a3 := cell_of k1 1; go_simp⟩⟩ ?_
  refine wpAnyC_take (i := 8) (v := (.slice a D.length cap : Value)) hC rfl rfl (by kernel_rfl) (by kernel_rfl) (by kernel_rfl) (fun _ _ _ h => h) ⟨by rfl, fun W hW => ⟨rfl, by obtain ⟨k0, k1, k2⟩ := hW; have a0 := cell_of k0 0; have a1 := cell_of k0 1; have a2 := cell_of k1 0; have a3 := cell_of k1 1; go_simp⟩⟩ ?_
  refine wpAnyC_take (i := 9) (v := (.agg #[.int .i64 m1, .int .i64 m2] : Value)) hC rfl rfl (by kernel_rfl) (by kernel_rfl) (by kernel_rfl) (fun _ _ _ h => h) ⟨by rfl, fun W hW => ⟨rfl, by obtain ⟨k0, k1, k2⟩ := hW; have a0 := cell_of k0 0; have a1 := cell_of k0 1; have a2 := cell_of k1 0; have a3 := cell_of k1 1; go_simp⟩⟩ ?_
  refine wpAnyC_one (i := 10) (by kernel_rfl) rfl (by rfl) (fun K hK => ?_)
  go_simp
  refine ⟨trivial, (callsIn_wide.2 (moved_any a D.length cap m1 m2 _)).mono ?_⟩
  rintro e w3 ⟨rfl, rfl⟩
  have f0 := blk_old (blk_old hC.1 (.cells #[.slice a D.length cap] 71)) (.cells #[.int .i64 m1, .int .i64 m2] 113)
  have f1 := blk_old (blk_old hC.2.1 (.cells #[.slice a D.length cap] 71)) (.cells #[.int .i64 m1, .int .i64 m2] 113)
  have f3 := blk_old (blk_new W2.drew (.cells #[.slice a D.length cap] 71)) (.cells #[.int .i64 m1, .int .i64 m2] 113)
  have f4 := blk_new (W2.drew.alloc (.cells #[.slice a D.length cap] 71)) (.cells #[.int .i64 m1, .int .i64 m2] 113)
  rw [World.size_alloc] at f4
  have be3 : Below w.heap.size w ((W2.drew.alloc (.cells #[.slice a D.length cap] 71)).alloc (.cells #[.int .i64 m1, .int .i64 m2] 113)) := (be.drew.alloc be.size _).alloc (by have := be.size; simp; omega) _
  have f2 : ((W2.drew.alloc (.cells #[.slice a D.length cap] 71)).alloc (.cells #[.int .i64 m1, .int .i64 m2] 113)).cell? ⟨gg, j, none⟩ = some (.slice a D.length cap) := (World.cell?_of_block ((be3.block _ hgg).trans (be.block _ hgg).symm)).trans c2
  have hG3 : D = [] ∨ (a = some ⟨G, 0, none⟩ ∧ CellsAt ((W2.drew.alloc (.cells #[.slice a D.length cap] 71)).alloc (.cells #[.int .i64 m1, .int .i64 m2] 113)) G D ∧ G < ((W2.drew.alloc (.cells #[.slice a D.length cap] 71)).alloc (.cells #[.int .i64 m1, .int .i64 m2] 113)).heap.size) := by
    rcases hG with h | ⟨h1, h2, h3⟩
    · exact .inl h
    · exact .inr ⟨h1, h2.below be3 h3, Nat.lt_of_lt_of_le h3 be3.size⟩
  have hGl3 := Nat.lt_of_lt_of_le hGl be3.size
  refine hK _ _ ⟨f0, f1, f2⟩ ?_
  clear hK K hC
  have hW0 : W2.drew.heap.size = W2.heap.size := rfl
  rw [hW0] at f3 f4
  generalize ((W2.drew.alloc (.cells #[.slice a D.length cap] 71)).alloc (.cells #[.int .i64 m1, .int .i64 m2] 113)) = W3 at *
  refine wpAnyC_one (i := 11) (by kernel_rfl) rfl (by rfl) (fun K hK => ?_)
  go_simp
  refine ⟨trivial, (callsIn_wide.2 (collect_any a cap G W2.heap.size m1 m2 D W3 f3 f4 hG3 hGl3 hl hF)).mono ?_⟩
  rintro e w4 ⟨⟨v, rfl, own⟩, b4⟩
  refine hK _ _ ⟨(b4.block _ (blk_lt f0)).trans f0, (b4.block _ (blk_lt f1)).trans f1, (World.cell?_of_block (b4.block _ (Nat.lt_of_lt_of_le hgg be3.size))).trans f2⟩ ?_
  clear hK K
  refine wpAnyC_one (i := 12) (by kernel_rfl) rfl (by rfl) (fun K hK => ?_)
  go_simp
  refine hK _ _ ⟨(b4.block _ (blk_lt f0)).trans f0, (b4.block _ (blk_lt f1)).trans f1, (World.cell?_of_block (b4.block _ (Nat.lt_of_lt_of_le hgg be3.size))).trans f2⟩ ?_
  clear hK K
  refine wpAnyC_done (by kernel_rfl) ?_ _
  gi_wp2
  exact bodyPost_ret (v := v) (by simp [results, Tryz.results99]) rfl ⟨⟨v, rfl, ownsRow_lowA own be3.size⟩, be3.trans (b4.mono be3.size)⟩

end Go.Proofs.YtiohpcnnpmnjhaaGreatDoor

namespace Go.Proofs.YtiohpcnnpmnjhaaGreatDoor
open Go.RowKit Go.Shelf
set_option linter.unusedVariables false
attribute [local go_sem] Oper.semAt_some

/-- Has no generation up to n too many cells? -/
def okTo (f g : Nat → Bool) (C : List Cel) (n : Nat) : Bool := (List.range (n + 1)).all fun r => decide ((gen f g C r).length ≤ 100)
theorem okTo_iff {f g : Nat → Bool} {C : List Cel} {n : Nat} : okTo f g C n = true ↔ ∀ r, r ≤ n → (gen f g C r).length ≤ 100 := by
  unfold okTo
  rw [List.all_eq_true]
  exact ⟨fun h r hr => by simpa using h r (List.mem_range.2 (by omega)), fun h r hr => by simpa using h r (by have := List.mem_range.1 hr; omega)⟩
/-- What reach leaves where n is at most 200. -/
def NearOut (f g : Nat → Bool) (C : List Cel) (n : Nat) (w : World) (e : Ending) (w' : World) : Prop :=
  Below w.heap.size w w' ∧ match okTo f g C n with
    | false => e = .panicked (refusal 5 0)
    | true => ∃ v, e = .returned v ∧ w'.ownsRow 0 113 2 v (gen f g C n).length (flatC (gen f g C n))

/-- What the rounds leave. -/
structure RchInv (w : World) (f g : Nat → Bool) (C : List Cel) (n : Nat) (v0 : Value) (pre : List GenV) (W : World) : Prop where
  le : pre.length ≤ n
  no : ∀ r, r < pre.length → (gen f g C r).length ≤ 100
  bn : W.heap[w.heap.size + 1]? = some (.cells #[.int .i64 (n : Int)] 3 (0, 0))
  br : W.heap[w.heap.size + 2]? = some (.cells #[v0] 71 (0, 0))
  be : Below w.heap.size w W
/-- What a round leaves that ends them. -/
structure REnd (w : World) (f g : Nat → Bool) (C : List Cel) (n : Nat) (W : World) : Prop where
  no : ∀ r, r ≤ n → (gen f g C r).length ≤ 100
  br : ∃ v, W.heap[w.heap.size + 2]? = some (.cells #[v] 71 (0, 0)) ∧ W.ownsRow 0 113 2 v (gen f g C n).length (flatC (gen f g C n))
  be : Below w.heap.size w W

set_option maxRecDepth 100000 in
set_option maxHeartbeats 1600000 in
theorem reach_near (hnext : NextDoes) (f g : Nat → Bool) (C : List Cel) (X Y : Int) (hasc : Asc C) (hr : ∀ t, t ≤ 300 → Roam X Y (gen f g C t)) (hl : C.length ≤ 100) (v : Value) (n : Nat) (hn : n ≤ 200) (w : World) (own : w.ownsRow 0 113 2 v C.length (flatC C)) :
    CallsIn Fence.wide 9 Tryz.prog 72 #[.agg (twoN f g), v, .int .i64 (n : Int)] w (NearOut f g C n w) := by
  have HL : Hid ((Tryz.prog.info? 69).map (·.size) = some (twoN f g).size) := infoL
  have hseq := fun (w0 : World) own0 hBf hBl => gens_seq hnext 8 (by omega) f g C X Y v (w.heap.size + 4) (w.heap.size + 3) w0 hasc hr hl own0 hBf hBl
  obtain ⟨av, cv, rfl⟩ := row_slice own
  obtain ⟨L, hL⟩ : ∃ L, twoN f g = L := ⟨_, rfl⟩
  rw [hL] at HL
  simp only [hL] at hseq ⊢
  clear hL
  refine callsIn_of_wp_marks Tryz.func72 rfl trivial ?_ rfl
  simp only [Tryz.ntmps72, List.size_toArray, List.length_cons, List.length_nil, Nat.reduceAdd, Nat.reduceSub, Array.replicate_succ, Array.replicate_zero, List.push_toArray, List.append_toArray, List.nil_append, List.cons_append]
  have bl := blk_old (blk_old (blk_new w (.cells L 69)) (.cells #[.int .i64 (n : Int)] 3)) (.cells #[.slice av C.length cv] 71)
  gi_wp2_with (first
    | (refine wpListIn_load_all rfl 69 (Operand.tmp 3) rfl w.heap.size rfl 69 L (0, 0) _ bl Tryz.underlying69 rfl HL.out ?_)
    | (refine ⟨trivial, ?_⟩; gi_at_call 100; refine (callsIn_wide.2 (generations_any L _ _ ⟨av, _, cv, rfl⟩)).mono ?_; rintro e w2 ⟨rfl, rfl⟩))
  have t1 := blk_old (blk_old (blk_old (blk_new (w.alloc (.cells L 69)) (.cells #[.int .i64 (n : Int)] 3)) (.cells #[.slice av C.length cv] 71)) (.cells L 69)) (.cells #[.slice av C.length cv] 71)
  have t2 := blk_old (blk_old (blk_new ((w.alloc (.cells L 69)).alloc (.cells #[.int .i64 (n : Int)] 3)) (.cells #[.slice av C.length cv] 71)) (.cells L 69)) (.cells #[.slice av C.length cv] 71)
  have t3 := blk_old (blk_new (((w.alloc (.cells L 69)).alloc (.cells #[.int .i64 (n : Int)] 3)).alloc (.cells #[.slice av C.length cv] 71)) (.cells L 69)) (.cells #[.slice av C.length cv] 71)
  have t4 := blk_new ((((w.alloc (.cells L 69)).alloc (.cells #[.int .i64 (n : Int)] 3)).alloc (.cells #[.slice av C.length cv] 71)).alloc (.cells L 69)) (.cells #[.slice av C.length cv] 71)
  simp only [World.size_alloc, Nat.add_assoc, Nat.reduceAdd] at t1 t2 t3 t4
  have hB5 : Below w.heap.size w (((((w.alloc (.cells L 69)).alloc (.cells #[.int .i64 (n : Int)] 3)).alloc (.cells #[.slice av C.length cv] 71)).alloc (.cells L 69)).alloc (.cells #[.slice av C.length cv] 71)) := (((((Below.refl _ w).alloc (Nat.le_refl _) _).alloc (by simp) _).alloc (by simp; omega) _).alloc (by simp; omega) _).alloc (by simp; omega) _
  have z5 : w.heap.size + 5 ≤ (((((w.alloc (.cells L 69)).alloc (.cells #[.int .i64 (n : Int)] 3)).alloc (.cells #[.slice av C.length cv] 71)).alloc (.cells L 69)).alloc (.cells #[.slice av C.length cv] 71)).heap.size := by simp
  have own5 := rowBelow own hB5
  have hsq := hseq _ own5 t4 t3
  clear hseq bl t3 t4 hnext
  generalize (((((w.alloc (.cells L 69)).alloc (.cells #[.int .i64 (n : Int)] 3)).alloc (.cells #[.slice av C.length cv] 71)).alloc (.cells L 69)).alloc (.cells #[.slice av C.length cv] 71)) = W0 at *
  refine wpIn_rangeP (α := GenV) (encs := encG) rfl (by omega) (gf := 122) rfl trivial (enters_of Tryz.func122 (by kernel_rfl) rfl) hsq KpI.trans ?kb (fun _ => rfl) (RchInv w f g C n (.slice av C.length cv)) (fun c pre W => c = .exit 0 ∧ REnd w f g C n W) ?hI ?hIx ?hEl ?h0
    (fun x => { tmps := #[.agg L, .slice av C.length cv, .int .i64 (n : Int), .pointer (some ⟨w.heap.size, 0, none⟩), undef, .pointer (some ⟨w.heap.size + 1, 0, none⟩), .slice none 0 0, .pointer (some ⟨w.heap.size + 1 + 1, 0, none⟩), .int .i64 (x.1 : Int), x.2, .int .i64 (n : Int), .bool (decide (200 < (n : Int))), undef, undef, undef, undef, undef, .slice av C.length cv, .agg L, .slice av C.length cv, .func (.func 122) #[] #[.pointer (some ⟨w.heap.size + 1 + 1 + 1 + 1, 0, none⟩), .pointer (some ⟨w.heap.size + 1 + 1 + 1, 0, none⟩)], .int .i64 (x.1 : Int), x.2, undef, undef, undef, undef, undef], defers := [] }) ?assign ?body ?done ?stop ?pan
  case kb =>
    intro W l r o hlt hl2
    refine ⟨by simp, fun k o' hk hkp => ?_⟩
    by_cases e : k = l
    · subst e; rw [hl2] at hk; cases hk; exact hkp.elim
    · exact (World.putObj_heap_other e).trans hk
  case hI =>
    rintro pre A B ⟨h1, h2, h3, h4, h5⟩ hab
    exact ⟨h1, h2, hab.cells _ _ h3 rfl, hab.cells _ _ h4 rfl, h5.trans (hab.be.mono (by omega))⟩
  case hIx =>
    rintro c pre A B ⟨rfl, h1, ⟨v, h2, h3⟩, h4⟩ hab
    exact ⟨rfl, h1, ⟨v, hab.cells _ _ h2 rfl, hab.row h3⟩, h4.trans (hab.be.mono (by omega))⟩
  case hEl =>
    rintro pre x A B ⟨h1, h2, h3, h4⟩ hab
    exact ⟨h1, h2, hab.row h3, h4⟩
  case h0 => exact ⟨Nat.zero_le _, fun r hr' => by simp at hr', t1, t2, hB5⟩
  case assign =>
    rintro l ⟨k, v⟩ W K hK
    simp only [encG]
    gi_wp2
    exact hK
  case body =>
    rintro l pre ⟨k, v⟩ W hl0 ⟨h1, h2, h3, h4, h5⟩ ⟨e1, e2, e3, e4⟩
    simp only at e1 e3
    obtain ⟨a3, n3, c3, rfl⟩ : ∃ a n c, v = .slice a n c := by obtain ⟨a, c, h⟩ := row_slice e3; exact ⟨a, _, c, h⟩
    dsimp only
    have q0 := cell_of h3 0
    have r0 := cell_of h4 0
    have r1 := frz_of h4 0
    have H2 : Hid (∀ r, r < pre.length → (gen f g C r).length ≤ 100) := h2
    have HE : Hid (k = pre.length) := e1
    clear h2 e1
    by_cases hk : k = n
    · have HK : Hid (k = n) := hk
      have hkb : ((k : Int) == (n : Int)) = true := by rw [hk]; simp
      clear hk
      gi_wp2
      refine ⟨(KeepsOthers.setCell _ _ _).from _, rfl, ⟨fun r hr' => ?_, ⟨.slice a3 n3 c3, blk_put (j := 0) h4 _, ?_⟩, h5.setCell (p := ⟨w.heap.size + 1 + 1, 0, none⟩) (by show w.heap.size ≤ w.heap.size + 1 + 1; omega) _⟩⟩
      · by_cases e : r = pre.length
        · rw [e]; exact e4
        · exact H2.out r (by have := HE.out; have := HK.out; omega)
      · have hpn : pre.length = n := by have := HE.out; have := HK.out; omega
        rw [hpn] at e3
        refine e3.kept (grown_setC W (w.heap.size + 2) 0 _) (Or.inr fun e => ?_)
        rcases e3.2 with ⟨hn', _⟩ | ⟨g', cap', cur', hv, _, hh, _⟩
        · cases hn'; cases e
        · cases hv
          have := Option.some.inj e
          simp only at this
          rw [this, h4] at hh
          cases hh
    · have hkb : ((k : Int) == (n : Int)) = false := by have : ¬ (k : Int) = (n : Int) := by omega
                                                        simpa using this
      have HK : Hid (k ≠ n) := hk
      clear hk
      gi_wp2
      refine ⟨(KeepsOthers.refl _).from _, KpI.refl _, ⟨?_, fun r hr' => ?_, h3, h4, h5⟩⟩
      · have := HE.out; have := HK.out
        simp only [List.length_append, List.length_cons, List.length_nil]
        omega
      · simp only [List.length_append, List.length_cons, List.length_nil] at hr'
        by_cases e : r = pre.length
        · rw [e]; exact e4
        · exact H2.out r (by omega)
  case done =>
    rintro D xs W hD hE ⟨h1, h2, h3, h4, h5⟩ hK
    omega
  case stop =>
    rintro D c pre W hD ⟨rfl, h1, ⟨v, h2, h3⟩, h4⟩ hK
    have q0 := cell_of h2 0
    obtain ⟨a3, n3, c3, rfl⟩ : ∃ a n c, v = .slice a n c := by obtain ⟨a, c, h⟩ := row_slice h3; exact ⟨a, _, c, h⟩
    gi_wp2
    refine ⟨by simp, .inl ⟨_, _, rfl, run_takeDeferred hK, ?_⟩⟩
    have hab : Ab w.heap.size W (W.putObj D (.deferred none)) := Ab.putObj (by omega) hK rfl _
    refine ⟨.slice a3 n3 c3, by simp [results, Tryz.results72], ?_⟩
    show NearOut f g C n w _ _
    unfold NearOut
    rw [okTo_iff.2 h1]
    exact ⟨h4.trans hab.be, _, rfl, hab.row h3⟩
  case pan =>
    rintro D ch pre W hD ⟨rfl, hp1, hp2, hp3⟩ ⟨h1, h2, h3, h4, h5⟩ hK
    have hno : okTo f g C n = false := by
      cases h : okTo f g C n with
      | false => rfl
      | true => have := okTo_iff.1 h pre.length h1; omega
    simp only [Exit.inBlock, Exit.then]
    refine ⟨by simp, .inl ⟨_, _, rfl, run_takeDeferred hK, ?_⟩⟩
    show NearOut f g C n w _ _
    unfold NearOut
    rw [hno]
    exact ⟨h5.trans (Ab.putObj (by omega) hK rfl _).be, rfl⟩

end Go.Proofs.YtiohpcnnpmnjhaaGreatDoor

namespace Go.Proofs.YtiohpcnnpmnjhaaGreatDoor
set_option linter.unusedVariables false

theorem gen_add (f g : Nat → Bool) (C : List Cel) (s : Nat) : ∀ k, gen f g C (s + k) = gen f g (gen f g C s) k
  | 0 => rfl
  | k + 1 => by
    show nextL f g (gen f g C (s + k)) = nextL f g (gen f g (gen f g C s) k)
    rw [gen_add f g C s k]
theorem ext_max (φ : Cel → Int) : ∀ (l : List Cel), l ≠ [] → ∃ p ∈ l, ∀ q ∈ l, φ q ≤ φ p
  | [], h => absurd rfl h
  | [a], _ => ⟨a, by simp, fun q hq => by simp at hq; rw [hq]; exact Int.le_refl _⟩
  | a :: b :: r, _ => by
    obtain ⟨p, hp, hm⟩ := ext_max φ (b :: r) (by simp)
    by_cases h : φ a ≤ φ p
    · exact ⟨p, by simp at hp ⊢; exact .inr hp, fun q hq => by
        rcases List.mem_cons.1 hq with rfl | hq
        · exact h
        · exact hm q hq⟩
    · exact ⟨a, by simp, fun q hq => by
        rcases List.mem_cons.1 hq with rfl | hq
        · exact Int.le_refl _
        · have := hm q hq; omega⟩
/-- No pattern moves by more than one cell in a generation. -/
theorem way_small {f g : Nat → Bool} {C : List Cel} {s t : Nat} (hst : s ≤ t) (h : wayB (gen f g C s) (gen f g C t) = true) :
    (-((t : Int) - (s : Int)) ≤ (wayD (gen f g C s) (gen f g C t)).1 ∧ (wayD (gen f g C s) (gen f g C t)).1 ≤ (t : Int) - (s : Int)) ∧ (-((t : Int) - (s : Int)) ≤ (wayD (gen f g C s) (gen f g C t)).2 ∧ (wayD (gen f g C s) (gen f g C t)).2 ≤ (t : Int) - (s : Int)) := by
  have hB : (gen f g C s).map (sh (wayD (gen f g C s) (gen f g C t)).1 (wayD (gen f g C s) (gen f g C t)).2) = gen f g C t := by
    unfold wayB at h; exact of_decide_eq_true h
  have hg : gen f g C t = gen f g (gen f g C s) (t - s) := by rw [← gen_add, Nat.add_sub_cancel' hst]
  by_cases hA : gen f g C s = []
  · rw [hA] at hB ⊢
    rw [← hB]
    simp only [List.map_nil, wayD]
    omega
  · obtain ⟨p1, m1, e1⟩ := ext_max (·.1) _ hA
    obtain ⟨p2, m2, e2⟩ := ext_max (fun c => -c.1) _ hA
    obtain ⟨p3, m3, e3⟩ := ext_max (·.2) _ hA
    obtain ⟨p4, m4, e4⟩ := ext_max (fun c => -c.2) _ hA
    have hb : InBox p2.1 p1.1 p4.2 p3.2 (gen f g C s) := fun q hq => by
      have a1 : q.1 ≤ p1.1 := e1 q hq
      have a2 : -q.1 ≤ -p2.1 := e2 q hq
      have a3 : q.2 ≤ p3.2 := e3 q hq
      have a4 : -q.2 ≤ -p4.2 := e4 q hq
      omega
    have hb2 := gen_box (f := f) (g := g) hb (t - s)
    rw [← hg] at hb2
    have hm : ∀ p ∈ gen f g C s, sh (wayD (gen f g C s) (gen f g C t)).1 (wayD (gen f g C s) (gen f g C t)).2 p ∈ gen f g C t := fun p hp => by
      have := List.mem_map_of_mem (f := sh (wayD (gen f g C s) (gen f g C t)).1 (wayD (gen f g C s) (gen f g C t)).2) hp
      rwa [hB] at this
    have b1 := hb2 _ (hm p1 m1); have b2 := hb2 _ (hm p2 m2); have b3 := hb2 _ (hm p3 m3); have b4 := hb2 _ (hm p4 m4)
    simp only [sh] at b1 b2 b3 b4
    omega

/-- By how much a pattern has moved after n generations: no more than n. -/
theorem rounds_small {x q d : Int} (hx : 0 ≤ x) (hq : 1 ≤ q) (h1 : -q ≤ d) (h2 : d ≤ q) : -x ≤ x / q * d ∧ x / q * d ≤ x := by
  have hk : 0 ≤ x / q := Int.ediv_nonneg hx (by omega)
  have hm : x / q * q ≤ x := Int.ediv_mul_le x (by omega)
  have a1 := Int.mul_le_mul_of_nonneg_left h2 hk
  have a2 := Int.mul_le_mul_of_nonneg_left h1 hk
  rw [Int.mul_neg] at a2
  omega

end Go.Proofs.YtiohpcnnpmnjhaaGreatDoor

namespace Go.Proofs.YtiohpcnnpmnjhaaGreatDoor
open Go.RowKit Go.Shelf
set_option linter.unusedVariables false
attribute [local go_sem] Oper.semAt_some

/-- Generation n of a pattern that comes back at t as its generation s, moved. -/
def lateL (f g : Nat → Bool) (C : List Cel) (t s : Nat) (n : Int) : List Cel :=
  (gen f g C (s + ((n - (s : Int)) % ((t : Int) - (s : Int))).toNat)).map (sh ((n - (s : Int)) / ((t : Int) - (s : Int)) * (wayD (gen f g C s) (gen f g C t)).1) ((n - (s : Int)) / ((t : Int) - (s : Int)) * (wayD (gen f g C s) (gen f g C t)).2))
/-- What reach leaves where n is above 200. -/
def LateOut (f g : Nat → Bool) (C : List Cel) (n : Int) (w : World) (e : Ending) (w' : World) : Prop :=
  Below w.heap.size w w' ∧ match course f g C with
    | .inl k => e = .panicked (refusal k 0)
    | .inr (t, s) => ∃ v, e = .returned v ∧ w'.ownsRow 0 113 2 v (lateL f g C t s n).length (flatC (lateL f g C t s n))

theorem all_getP {W : World} {B n : Nat} {va : Value} {vs : List Value} (own : W.ownsRow B 71 1 va n vs) (h : 0 < n) :
    ∃ gb cap, va = .slice (some ⟨gb, 0, none⟩) n cap ∧ gb < W.heap.size ∧ ∀ (i : Nat) v, vs[i]? = some v → W.cell? ⟨gb, i, none⟩ = some v := by
  rcases own.2 with ⟨h1, h2⟩ | ⟨gb, cap, cur, rfl, hg, hh, hn, hc, hz, ht⟩
  · omega
  · refine ⟨gb, cap, rfl, blk_lt hh, fun i v hv => ?_⟩
    rw [← ht, List.getElem?_take] at hv
    split at hv
    · simpa [World.cell?, hh] using hv
    · cases hv
/-- The story's generation that is asked for. -/
theorem at_does (f g : Nat → Bool) (C : List Cel) (X Y : Int) (hr : ∀ t, t ≤ 300 → Roam X Y (gen f g C t)) (t s : Nat) (ht : t ≤ 200) (hst : s < t) (hc : cameB f g C t = some s) (n : Int) (h1 : 200 < n) (h2 : n ≤ 1000000000000000000) (hlen : ∀ r, r ≤ t → (gen f g C r).length ≤ 1000) (gs : Value) (vs : List Value) (hv : vs.length = t + 1) (w : World) (hR : Rows2 w 0 0 f g C vs gs) :
    Calls Tryz.prog 99 #[.agg (storyV gs (cycOf f g C t)), .int .i64 n] w fun e w' => (∃ v, e = .returned v ∧ w'.ownsRow 0 113 2 v (lateL f g C t s n).length (flatC (lateL f g C t s n))) ∧ Below w.heap.size w w' := by
  have hw : wayB (gen f g C s) (gen f g C t) = true := by
    unfold cameB at hc
    have := List.find?_some hc
    simpa using this
  have hsm := way_small (Nat.le_of_lt hst) hw
  have hcy : cycOf f g C t = ((s : Int), (t : Int) - (s : Int), (wayD (gen f g C s) (gen f g C t)).1, (wayD (gen f g C s) (gen f g C t)).2) := by unfold cycOf; rw [hc]
  obtain ⟨⟨d1, d2⟩, hd⟩ : ∃ d, wayD (gen f g C s) (gen f g C t) = d := ⟨_, rfl⟩
  have hmod := Int.emod_nonneg (n - (s : Int)) (b := (t : Int) - (s : Int)) (by omega)
  have hmod2 := Int.emod_lt_of_pos (n - (s : Int)) (b := (t : Int) - (s : Int)) (by omega)
  obtain ⟨j, hj⟩ : ∃ j : Nat, s + ((n - (s : Int)) % ((t : Int) - (s : Int))).toNat = j := ⟨_, rfl⟩
  have hjt : j < t := by omega
  have hji : (s : Int) + (n - (s : Int)) % ((t : Int) - (s : Int)) = (j : Int) := by omega
  obtain ⟨vj, hvj⟩ : ∃ vj, vs[j]? = some vj := ⟨vs[j]'(by omega), by simp [show j < vs.length by omega]⟩
  have hrow := hR.all j vj hvj
  obtain ⟨a, cap, hva⟩ := row_slice hrow
  subst hva
  have hm1 := rounds_small (x := n - (s : Int)) (q := (t : Int) - (s : Int)) (d := d1) (by omega) (by omega) (by rw [hd] at hsm; exact hsm.1.1) (by rw [hd] at hsm; exact hsm.1.2)
  have hm2 := rounds_small (x := n - (s : Int)) (q := (t : Int) - (s : Int)) (d := d2) (by omega) (by omega) (by rw [hd] at hsm; exact hsm.2.1) (by rw [hd] at hsm; exact hsm.2.2)
  have hlL : lateL f g C t s n = (gen f g C j).map (sh ((n - (s : Int)) / ((t : Int) - (s : Int)) * d1) ((n - (s : Int)) / ((t : Int) - (s : Int)) * d2)) := by unfold lateL; rw [hj, hd]
  obtain ⟨m1, hM1⟩ : ∃ m, (n - (s : Int)) / ((t : Int) - (s : Int)) * d1 = m := ⟨_, rfl⟩
  obtain ⟨m2, hM2⟩ : ∃ m, (n - (s : Int)) / ((t : Int) - (s : Int)) * d2 = m := ⟨_, rfl⟩
  rw [hM1] at hm1 hlL
  rw [hM2] at hm2 hlL
  have hFit : Fits m1 m2 (gen f g C j) := fun c hc' => by
    have h3 := hr j (by omega)
    have := h3.bx c hc'
    have := h3.x1; have := h3.x2; have := h3.y1; have := h3.y2
    omega
  obtain ⟨gg, cg, hgs, hgg, hget⟩ := all_getP hR.own (by omega)
  subst hgs
  obtain ⟨G, hG, hGl⟩ : ∃ G, (gen f g C j = [] ∨ (a = some ⟨G, 0, none⟩ ∧ CellsAt w G (gen f g C j) ∧ G < w.heap.size)) ∧ G < w.heap.size := by
    rcases cells_cases hrow with ⟨_, hnil⟩ | ⟨G, cap', e, hS, hG⟩
    · exact ⟨gg, .inl hnil, hgg⟩
    · cases e; exact ⟨G, .inr ⟨rfl, hS, hG⟩, hG⟩
  have hA := callsIn_wide.1 (at_in gg vs.length cg j a cap G (s : Int) ((t : Int) - (s : Int)) d1 d2 n m1 m2 (gen f g C j) w hgg (hget j _ hvj) (by omega) hG hGl (by have := hlen j (by omega); omega) hFit (by omega) (by omega) (by omega) hji hM1 hM2 (by omega) (by omega))
  rw [hcy, hd, hlL]
  refine hA.mono ?_
  rintro e w' ⟨⟨v, rfl, own⟩, hb⟩
  refine ⟨⟨v, rfl, ?_⟩, hb⟩
  rw [List.length_map]
  exact ownsRow_lowA own (Nat.zero_le _)

theorem courseF_len {f g : Nat → Bool} {C : List Cel} : ∀ (k t0 : Nat) {t s : Nat}, courseF f g C k t0 = .inr (t, s) → ∀ r, t0 ≤ r → r ≤ t → (gen f g C r).length ≤ 100
  | 0, _, _, _, h => by simp [courseF] at h
  | k + 1, t0, t, s, h => fun r h0 h1 => by
    rw [courseF] at h
    split at h
    · cases h
    rename_i hb
    cases hc : cameB f g C t0 with
    | none =>
      rw [hc] at h
      by_cases e : r = t0
      · subst e; omega
      · exact courseF_len k (t0 + 1) h r (by omega) h1
    | some s0 =>
      rw [hc] at h; cases h
      have : r = t0 := by omega
      subst this; omega
theorem run_load_all {P : Program} (W : World) (o : Oper) (ρ : Operand → Value) {x : Operand} {ty : TypeId} {g : Nat} {cs : Array Value} (ho : o.op = .load ty x) (hx : ρ x = .pointer (some ⟨g, 0, none⟩)) (hl : (loadVar ty ⟨g, 0, none⟩).run P W = .ok (.agg cs) W) : (execOp ρ o).run P W = .ok (.value (.agg cs)) W := by
  unfold execOp
  simp only [ho, hx, Instr.loadAt, Instr.sureAddr, Sem.run_bind, Sem.run_pure, Result.andThen_ok, hl]

set_option maxRecDepth 100000 in
set_option maxHeartbeats 1600000 in
theorem reach_far (f g : Nat → Bool) (C : List Cel) (X Y : Int) (hasc : Asc C) (hr : ∀ t, t ≤ 300 → Roam X Y (gen f g C t)) (hl : C.length ≤ 100) (v : Value) (n : Int) (h1 : 200 < n) (h2 : n ≤ 1000000000000000000) (w : World) (own : w.ownsRow 0 113 2 v C.length (flatC C)) :
    CallsIn Fence.wide 9 Tryz.prog 72 #[.agg (twoN f g), v, .int .i64 n] w (LateOut f g C n w) := by
  have HL : Hid ((Tryz.prog.info? 69).map (·.size) = some (twoN f g).size) := infoL
  have hF := fun (w : World) own => callsIn_wide.1 (follow_walk moveTo_does next_does f g C X Y hasc hr hl v w own)
  obtain ⟨av, cv, rfl⟩ := row_slice own
  obtain ⟨L, hL⟩ : ∃ L, twoN f g = L := ⟨_, rfl⟩
  rw [hL] at HL
  simp only [hL] at hF ⊢
  clear hL
  refine callsIn_of_wp Tryz.func72 rfl trivial ?_ rfl
  simp only [Tryz.ntmps72, List.size_toArray, List.length_cons, List.length_nil, Nat.reduceAdd, Nat.reduceSub, Array.replicate_succ, Array.replicate_zero, List.push_toArray, List.append_toArray, List.nil_append, List.cons_append]
  gi_wp2
  have t0 := blk_old (blk_new w (.cells L 69)) (.cells #[.int .i64 n] 3)
  have t1 := blk_new (w.alloc (.cells L 69)) (.cells #[.int .i64 n] 3)
  rw [World.size_alloc] at t1
  have be : Below w.heap.size w ((w.alloc (.cells L 69)).alloc (.cells #[.int .i64 n] 3)) := ((Below.refl _ _).alloc (Nat.le_refl _) _).alloc (by simp) _
  generalize ((w.alloc (.cells L 69)).alloc (.cells #[.int .i64 n] 3)) = W1 at *
  refine wpIn_region_any (by kernel_rfl) (wpAnyC.any (C := fun W => W.heap[w.heap.size]? = some (.cells L 69 (0, 0)) ∧ W.heap[w.heap.size + 1]? = some (.cells #[.int .i64 n] 3 (0, 0))) ?_)
  change wpAnyC _ _ _ _ _ _ _ _ _ _ (World.drew _)
  have hC : W1.drew.heap[w.heap.size]? = some (.cells L 69 (0, 0)) ∧ W1.drew.heap[w.heap.size + 1]? = some (.cells #[.int .i64 n] 3 (0, 0)) := ⟨t0, t1⟩
  refine wpAnyC_take (i := 0) (v := .agg L) hC rfl rfl (by kernel_rfl) (by kernel_rfl) (by kernel_rfl) (fun _ _ _ h => h) ⟨by rfl, fun W hW => ⟨rfl, run_load_all W _ _ rfl rfl (run_loadVar_row W w.heap.size 69 69 L (0, 0) _ hW.1 Tryz.underlying69 rfl HL.out)⟩⟩ ?_
  refine wpAnyC_take (i := 1) (v := .slice av C.length cv) hC rfl rfl (by kernel_rfl) (by kernel_rfl) (by kernel_rfl) (fun _ _ _ h => h) ⟨by rfl, fun W hW => ⟨rfl, by go_simp⟩⟩ ?_
  refine wpAnyC_take (i := 3) (v := .int .i64 n) hC rfl rfl (by kernel_rfl) (by kernel_rfl) (by kernel_rfl) (fun _ _ _ h => h) ⟨by rfl, fun W hW => ⟨rfl, by have a0 := cell_of hW.2 0; go_simp⟩⟩ ?_
  have own1 : W1.drew.ownsRow 0 113 2 (.slice av C.length cv) C.length (flatC C) := rowBelow own be.drew
  have hF1 := hF _ own1
  refine wpAnyC_one (i := 2) (by kernel_rfl) rfl (by rfl) (fun K hK => ?_)
  go_simp
  refine ⟨trivial, (callsIn_wide.2 hF1).mono ?_⟩
  intro e w3 ho
  unfold FollowOut at ho
  cases hco : course f g C with
  | inl k =>
    rw [hco] at ho
    obtain ⟨b3, rfl⟩ := ho
    exact ⟨rfl, by unfold LateOut; rw [hco]; exact ⟨be.drew.trans (b3.mono be.size), rfl⟩⟩
  | inr x =>
    obtain ⟨t, s⟩ := x
    rw [hco] at ho
    obtain ⟨b3, g1, g2, g3, gs, vs, g4, rfl, g5⟩ := ho
    have hC3 : w3.heap[w.heap.size]? = some (.cells L 69 (0, 0)) ∧ w3.heap[w.heap.size + 1]? = some (.cells #[.int .i64 n] 3 (0, 0)) := ⟨(b3.block _ (blk_lt hC.1)).trans hC.1, (b3.block _ (blk_lt hC.2)).trans hC.2⟩
    refine hK _ _ hC3 ?_
    clear hK K
    have hA := at_does f g C X Y hr t s g1 g2 g3 n h1 h2 (fun r hr' => by have := courseF_len 201 0 hco r (Nat.zero_le _) hr'; omega) gs vs g4 w3 ⟨ownsRow_lowA g5.own (Nat.zero_le _), g5.all⟩
    have be3 : Below w.heap.size w w3 := be.drew.trans (b3.mono be.size)
    obtain ⟨V, hV⟩ : ∃ V, storyV gs (cycOf f g C t) = V := ⟨_, rfl⟩
    rw [hV] at hA ⊢
    refine wpAnyC_one (i := 4) (by kernel_rfl) rfl (by rfl) (fun K hK => ?_)
    go_simp
    refine ⟨trivial, (callsIn_wide.2 hA).mono ?_⟩
    rintro e w4 ⟨⟨u, rfl, own4⟩, b4⟩
    have hC4 : w4.heap[w.heap.size]? = some (.cells L 69 (0, 0)) ∧ w4.heap[w.heap.size + 1]? = some (.cells #[.int .i64 n] 3 (0, 0)) := ⟨(b4.block _ (blk_lt hC3.1)).trans hC3.1, (b4.block _ (blk_lt hC3.2)).trans hC3.2⟩
    refine hK _ _ hC4 ?_
    clear hK K
    refine wpAnyC_one (i := 5) (by kernel_rfl) rfl (by rfl) (fun K hK => ?_)
    go_simp
    refine hK _ _ hC4 ?_
    clear hK K
    refine wpAnyC_done (by kernel_rfl) ?_ _
    gi_wp2
    exact bodyPost_ret (v := u) (by simp [results, Tryz.results72]) rfl (by unfold LateOut; rw [hco]; exact ⟨be3.trans (b4.mono be3.size), u, rfl, own4⟩)

end Go.Proofs.YtiohpcnnpmnjhaaGreatDoor

namespace Go.Proofs.YtiohpcnnpmnjhaaGreatDoor
set_option linter.unusedVariables false

/-- A pattern that is read lies in a window of 15 million cells. -/
theorem patR_tight {s : ByteArray} {C : List Cel} (h : patR s = .inr C) : ∃ X Y, Fine C X Y ∧ InBox X (X + 15000000) Y (Y + 15000000) C := by
  unfold patR at h
  split at h
  · cases h
  rename_i hs
  split at h
  · cases h
  rename_i x y l hp
  split at h
  · cases h
  rename_i hf
  split at h
  · cases h
  rename_i ht
  cases h
  obtain ⟨hl, hr⟩ := parse_ok (by omega) hp
  simp only [Bool.or_eq_true, not_or, Bool.not_eq_true] at hf
  have hb := hf.1
  simp only [farB, MC, Bool.or_eq_false_iff, decide_eq_false_iff_not] at hb
  have hbd := penRun_bd (x := x) (y := y) (l := l) (by omega) hl hr
  have hw := penWin_run (x := x) (y := y) hr
  have hcl := cellsOf_length _ hbd.2
  refine ⟨x, y, ⟨by omega, by omega, by omega, by omega, by omega, fun c hc => ?_, hw.asc⟩, fun c hc => ?_⟩
  · obtain ⟨w1, w2, w3, w4⟩ := hw.win c hc
    exact ⟨w1, by omega, w3, by omega⟩
  · obtain ⟨w1, w2, w3, w4⟩ := hw.win c hc
    exact ⟨w1, by omega, w3, by omega⟩

/-- Few cells in order, close together and not too far out, are fine. -/
theorem fine_near {a b : Int} {D : List Cel} (hl : D.length ≤ 100) (ha : Asc D) (hb : InBox a (a + 16000000) b (b + 16000000) D) (hf : farL D = false) : ∃ X Y, Fine D X Y := by
  by_cases hD : D = []
  · subst hD
    exact ⟨0, 0, by omega, by omega, by omega, by omega, by simp, fun c hc => by simp at hc, ha⟩
  · obtain ⟨p2, m2, e2⟩ := ext_max (fun c => -c.1) _ hD
    obtain ⟨p4, m4, e4⟩ := ext_max (fun c => -c.2) _ hD
    have near : ∀ c ∈ D, (-2000000000000000000 ≤ c.1 ∧ c.1 ≤ 2000000000000000000) ∧ (-2000000000000000000 ≤ c.2 ∧ c.2 ≤ 2000000000000000000) := fun c hc => by
      have := List.any_eq_false.1 hf c hc
      simp only [farB, MC, Bool.not_eq_true, Bool.or_eq_false_iff, decide_eq_false_iff_not] at this
      omega
    have n2 := near p2 m2; have n4 := near p4 m4
    have b2 := hb p2 m2; have b4 := hb p4 m4
    refine ⟨p2.1, p4.2, by omega, by omega, by omega, by omega, hl, fun c hc => ?_, ha⟩
    have a2 : -c.1 ≤ -p2.1 := e2 c hc
    have a4 : -c.2 ≤ -p4.2 := e4 c hc
    have bc := hb c hc
    exact ⟨by omega, by omega, by omega, by omega⟩
theorem asc_sh {dx dy : Int} {C : List Cel} (h : Asc C) : Asc (C.map (sh dx dy)) := by
  unfold Asc at *
  rw [List.pairwise_map]
  refine h.imp fun {a b} hab => ?_
  unfold before sh at *
  simp only at *
  omega

end Go.Proofs.YtiohpcnnpmnjhaaGreatDoor

namespace Go.Proofs.YtiohpcnnpmnjhaaGreatDoor
open Go.RowKit Go.Shelf
set_option linter.unusedVariables false

/-- Generation n, or why there is none. -/
def reachR (f g : Nat → Bool) (C : List Cel) (n : Int) : Int ⊕ List Cel :=
  if n ≤ 200 then (if okTo f g C n.toNat = true then .inr (gen f g C n.toNat) else .inl 5)
  else match course f g C with
    | .inl k => .inl k
    | .inr (t, s) => .inr (lateL f g C t s n)
/-- What Step tells: an error, or the cells. -/
def afterR (f g : Nat → Bool) (C : List Cel) (n : Int) : Int ⊕ List Cel :=
  if n < 0 ∨ 1000000000000000000 < n then .inl 6
  else match reachR f g C n with
    | .inl k => .inl k
    | .inr D => if farL D = true then .inl 4 else .inr D
/-- What a call leaves that gives cells, or gives up. -/
def CellsOut (r : Int ⊕ List Cel) (w : World) (e : Ending) (w' : World) : Prop :=
  Below w.heap.size w w' ∧ match r with
    | .inl k => e = .panicked (refusal k 0)
    | .inr D => ∃ v, e = .returned v ∧ w'.ownsRow 0 113 2 v D.length (flatC D)

theorem reach_any (f g : Nat → Bool) (C : List Cel) (X Y : Int) (hf : Fine C X Y) (v : Value) (n : Int) (h1 : 0 ≤ n) (h2 : n ≤ 1000000000000000000) (w : World) (own : w.ownsRow 0 113 2 v C.length (flatC C)) :
    Calls Tryz.prog 72 #[.agg (twoN f g), v, .int .i64 n] w (CellsOut (reachR f g C n) w) := by
  by_cases hn : n ≤ 200
  · obtain ⟨m, rfl⟩ : ∃ m : Nat, n = (m : Int) := ⟨n.toNat, by omega⟩
    refine (callsIn_wide.1 (reach_near next_does f g C X Y hf.asc (fine_roam hf) hf.len v m (by omega) w own)).mono ?_
    rintro e w' ⟨hb, h⟩
    refine ⟨hb, ?_⟩
    unfold reachR
    rw [if_pos hn, Int.toNat_natCast]
    cases ho : okTo f g C m with
    | false => rw [ho] at h; exact h
    | true => rw [ho] at h; exact h
  · refine (callsIn_wide.1 (reach_far f g C X Y hf.asc (fine_roam hf) hf.len v n (by omega) h2 w own)).mono ?_
    rintro e w' ⟨hb, h⟩
    refine ⟨hb, ?_⟩
    unfold reachR
    rw [if_neg hn]
    cases hc : course f g C with
    | inl k => rw [hc] at h; exact h
    | inr x => obtain ⟨t, s⟩ := x; rw [hc] at h; exact h

theorem courseF_s {f g : Nat → Bool} {C : List Cel} : ∀ (k t0 : Nat) {t s : Nat}, courseF f g C k t0 = .inr (t, s) → t < t0 + k ∧ cameB f g C t = some s
  | 0, _, _, _, h => by simp [courseF] at h
  | k + 1, t0, t, s, h => by
    rw [courseF] at h
    split at h
    · cases h
    cases hc : cameB f g C t0 with
    | none => rw [hc] at h; have := courseF_s k (t0 + 1) h; exact ⟨by omega, this.2⟩
    | some s0 => rw [hc] at h; cases h; exact ⟨by omega, hc⟩

/-- What is reached is few cells, in order, close together. -/
theorem reachR_ok {f g : Nat → Bool} {C : List Cel} {X Y n : Int} (hf : Fine C X Y) (hbx : InBox X (X + 15000000) Y (Y + 15000000) C) (h1 : 0 ≤ n) (h2 : n ≤ 1000000000000000000) {D : List Cel} (h : reachR f g C n = .inr D) :
    D.length ≤ 100 ∧ Asc D ∧ ∃ a b, (-4000000000000000000 ≤ a ∧ a ≤ 4000000000000000000) ∧ (-4000000000000000000 ≤ b ∧ b ≤ 4000000000000000000) ∧ InBox a (a + 16000000) b (b + 16000000) D := by
  have hx1 := hf.x1; have hx2 := hf.x2; have hy1 := hf.y1; have hy2 := hf.y2
  unfold reachR at h
  by_cases hn : n ≤ 200
  · rw [if_pos hn] at h
    split at h
    · rename_i ho
      cases h
      refine ⟨okTo_iff.1 ho _ (Nat.le_refl _), gen_asc hf.asc _, X - 200, Y - 200, by omega, by omega, fun c hc => ?_⟩
      have := gen_box (f := f) (g := g) hbx n.toNat c hc
      omega
    · cases h
  · rw [if_neg hn] at h
    cases hc : course f g C with
    | inl k => rw [hc] at h; cases h
    | inr x =>
      obtain ⟨t, s⟩ := x
      rw [hc] at h
      cases h
      obtain ⟨ht, hcm⟩ := courseF_s 201 0 hc
      have hst := cameB_lt hcm
      have hw : wayB (gen f g C s) (gen f g C t) = true := by
        unfold cameB at hcm
        have := List.find?_some hcm
        simpa using this
      have hsm := way_small (Nat.le_of_lt hst) hw
      have hmod := Int.emod_nonneg (n - (s : Int)) (b := (t : Int) - (s : Int)) (by omega)
      have hmod2 := Int.emod_lt_of_pos (n - (s : Int)) (b := (t : Int) - (s : Int)) (by omega)
      have hm1 := rounds_small (x := n - (s : Int)) (q := (t : Int) - (s : Int)) (d := (wayD (gen f g C s) (gen f g C t)).1) (by omega) (by omega) hsm.1.1 hsm.1.2
      have hm2 := rounds_small (x := n - (s : Int)) (q := (t : Int) - (s : Int)) (d := (wayD (gen f g C s) (gen f g C t)).2) (by omega) (by omega) hsm.2.1 hsm.2.2
      unfold lateL
      obtain ⟨j, hj⟩ : ∃ j : Nat, s + ((n - (s : Int)) % ((t : Int) - (s : Int))).toNat = j := ⟨_, rfl⟩
      rw [hj]
      generalize (n - (s : Int)) / ((t : Int) - (s : Int)) * (wayD (gen f g C s) (gen f g C t)).1 = m1 at *
      generalize (n - (s : Int)) / ((t : Int) - (s : Int)) * (wayD (gen f g C s) (gen f g C t)).2 = m2 at *
      refine ⟨by rw [List.length_map]; exact courseF_len 201 0 hc j (Nat.zero_le _) (by omega), asc_sh (gen_asc hf.asc _), X - 200 + m1, Y - 200 + m2, by omega, by omega, fun c hc' => ?_⟩
      obtain ⟨p, hp, rfl⟩ := List.mem_map.1 hc'
      have := gen_box (f := f) (g := g) hbx j p hp
      simp only [sh]
      omega

set_option maxRecDepth 100000 in
set_option maxHeartbeats 1600000 in
theorem after_any (f g : Nat → Bool) (C : List Cel) (X Y : Int) (hf : Fine C X Y) (hbx : InBox X (X + 15000000) Y (Y + 15000000) C) (v : Value) (n : Int) (w : World) (own : w.ownsRow 0 113 2 v C.length (flatC C)) :
    Calls Tryz.prog 42 #[.agg (twoN f g), v, .int .i64 n] w (CellsOut (afterR f g C n) w) := by
  have HL : Hid ((Tryz.prog.info? 69).map (·.size) = some (twoN f g).size) := infoL
  by_cases hr : n < 0 ∨ 1000000000000000000 < n
  · have HA : Hid (afterR f g C n = .inl 6) := by show _ = _; unfold afterR; rw [if_pos hr]
    obtain ⟨L, hL⟩ : ∃ L, twoN f g = L := ⟨_, rfl⟩
    simp only [hL]
    clear hL HL
    obtain ⟨av, cv, rfl⟩ := row_slice own
    by_cases h0 : n < 0
    · go_enter Tryz.func42, Tryz.ntmps42
      go_wp2_with (go_at_call 71; refine (giveUp_any 6 0 _).mono ?_; rintro e w' ⟨rfl, rfl⟩)
      exact ⟨rfl, by rw [HA.out]; exact ⟨(Below.refl _ _).alloc (Nat.le_refl _) _, rfl⟩⟩
    · have h9 : 1000000000000000000 < n := by omega
      go_enter Tryz.func42, Tryz.ntmps42
      go_wp2_with (go_at_call 71; refine (giveUp_any 6 0 _).mono ?_; rintro e w' ⟨rfl, rfl⟩)
      exact ⟨rfl, by rw [HA.out]; exact ⟨(Below.refl _ _).alloc (Nat.le_refl _) _, rfl⟩⟩
  · have hn0 : ¬ n < 0 := by omega
    have hn1 : ¬ 1000000000000000000 < n := by omega
    have hR := fun w own => reach_any f g C X Y hf v n (by omega) (by omega) w own
    have hok := fun D h => reachR_ok (f := f) (g := g) (n := n) (D := D) hf hbx (by omega) (by omega) h
    have HA : Hid (afterR f g C n = match reachR f g C n with | .inl k => .inl k | .inr D => if farL D = true then .inl 4 else .inr D) := by show _ = _; unfold afterR; rw [if_neg hr]
    have bl := blk_new w (.cells (twoN f g) 69)
    have be : Below w.heap.size w (w.alloc (.cells (twoN f g) 69)) := (Below.refl _ _).alloc (Nat.le_refl _) _
    have hR1 := hR _ (rowBelow own be)
    obtain ⟨L, hL⟩ : ∃ L, twoN f g = L := ⟨_, rfl⟩
    rw [hL] at HL bl hR1 be
    simp only [hL]
    clear hL hR hr
    obtain ⟨av, cv, rfl⟩ := row_slice own
    cases hq : reachR f g C n with
    | inl k =>
      rw [hq] at HA hR1
      go_enter Tryz.func42, Tryz.ntmps42
      go_wp2_with (first
        | (refine wpList_load_row rfl 69 (Operand.tmp 3) rfl w.heap.size rfl 69 L (0, 0) _ bl Tryz.underlying69 rfl HL.out ?_)
        | (go_at_call 72; refine hR1.mono ?_; rintro e w1 ⟨b1, rfl⟩))
      exact ⟨rfl, by rw [HA.out]; exact ⟨be.trans (b1.mono be.size), rfl⟩⟩
    | inr D =>
      obtain ⟨d1, d2, a, b, d3, d4, d5⟩ := hok D hq
      rw [hq] at HA hR1
      have hFar := fun v w own => patFar_any 0 v D w own (by omega) (fun c hc => by have := d5 c hc; omega)
      cases hfd : farL D with
      | true =>
        rw [hfd] at hFar
        go_enter Tryz.func42, Tryz.ntmps42
        go_wp2_with (first
          | (refine wpList_load_row rfl 69 (Operand.tmp 3) rfl w.heap.size rfl 69 L (0, 0) _ bl Tryz.underlying69 rfl HL.out ?_)
          | (go_at_call 72; refine hR1.mono ?_; rintro e w1 ⟨b1, u, rfl, own1⟩)
          | (go_at_call 73; refine (hFar _ _ own1).mono ?_; rintro e w2 ⟨rfl, b2⟩)
          | (go_at_call 71; refine (giveUp_any 4 0 _).mono ?_; rintro e w' ⟨rfl, rfl⟩))
        exact ⟨rfl, by rw [HA.out]; simp only [hfd, if_true]; exact ⟨(be.trans (b1.mono be.size)).trans (b2.mono (Nat.le_trans be.size b1.size)), rfl⟩⟩
      | false =>
        rw [hfd] at hFar
        go_enter Tryz.func42, Tryz.ntmps42
        go_wp2_with (first
          | (refine wpList_load_row rfl 69 (Operand.tmp 3) rfl w.heap.size rfl 69 L (0, 0) _ bl Tryz.underlying69 rfl HL.out ?_)
          | (go_at_call 72; refine hR1.mono ?_; rintro e w1 ⟨b1, u, rfl, own1⟩)
          | (go_at_call 73; refine (hFar _ _ own1).mono ?_; rintro e w2 ⟨rfl, b2⟩))
        go_ret
        rw [HA.out]
        simp only [hfd]
        exact ⟨(be.trans (b1.mono be.size)).trans (b2.mono (Nat.le_trans be.size b1.size)), u, rfl, rowBelow own1 b2⟩

end Go.Proofs.YtiohpcnnpmnjhaaGreatDoor

namespace Go.Proofs.YtiohpcnnpmnjhaaGreatDoor
open Go.RowKit Go.Shelf
set_option linter.unusedVariables false

theorem sh_inj {a b : Int} {p q : Cel} (h : sh a b p = sh a b q) : p = q := by
  obtain ⟨p1, p2⟩ := p; obtain ⟨q1, q2⟩ := q
  simp only [sh, Prod.mk.injEq] at h ⊢
  omega
theorem mem_sh {a b : Int} {C : List Cel} {c : Cel} : sh a b c ∈ C.map (sh a b) ↔ c ∈ C :=
  ⟨fun h => by obtain ⟨d, hd, e⟩ := List.mem_map.1 h; rwa [← sh_inj e], fun h => List.mem_map_of_mem h⟩
theorem isNb_sh (a b : Int) (c d : Cel) : isNb (sh a b c) (sh a b d) = isNb c d := by
  have e : (sh a b d = sh a b c) = (d = c) := propext ⟨sh_inj, fun h => by rw [h]⟩
  unfold isNb
  simp only [e]
  simp only [sh, show d.1 + a - (c.1 + a) = d.1 - c.1 by omega, show d.2 + b - (c.2 + b) = d.2 - c.2 by omega]
theorem nbC_sh (a b : Int) (C : List Cel) (c : Cel) : nbC (C.map (sh a b)) (sh a b c) = nbC C c := by
  unfold nbC
  rw [List.countP_map]
  congr 1
  funext d
  exact isNb_sh a b c d
theorem lives_sh (f g : Nat → Bool) (a b : Int) (C : List Cel) (c : Cel) : livesC f g (C.map (sh a b)) (sh a b c) = livesC f g C c := by
  unfold livesC
  rw [nbC_sh]
  by_cases h : c ∈ C
  · rw [if_pos h, if_pos (mem_sh.2 h)]
  · rw [if_neg h, if_neg (fun h' => h (mem_sh.1 h'))]
theorem sh_back (a b : Int) (c : Cel) : sh a b (sh (-a) (-b) c) = c := by
  obtain ⟨x, y⟩ := c
  simp only [sh, Prod.mk.injEq]
  omega
theorem around_sh (a b : Int) (c d : Cel) : sh a b c ∈ around (sh a b d) ↔ c ∈ around d := by
  rw [mem_around, mem_around]
  simp only [sh]
  omega
/-- Moving, and the next generation. -/
theorem nextL_sh (f g : Nat → Bool) (a b : Int) (C : List Cel) : nextL f g (C.map (sh a b)) = (nextL f g C).map (sh a b) := by
  refine asc_unique (asc_nextL f g _) (asc_sh (asc_nextL f g _)) fun c => ?_
  rw [← sh_back a b c, mem_sh, mem_nextL, mem_nextL, lives_sh]
  refine and_congr_left fun _ => ⟨?_, ?_⟩
  · rintro ⟨d, hd, h⟩
    obtain ⟨e, he, rfl⟩ := List.mem_map.1 hd
    exact ⟨e, he, (around_sh a b _ _).1 h⟩
  · rintro ⟨d, hd, h⟩
    exact ⟨_, List.mem_map_of_mem hd, (around_sh a b _ _).2 h⟩
theorem gen_sh (f g : Nat → Bool) (a b : Int) (C : List Cel) : ∀ n, gen f g (C.map (sh a b)) n = (gen f g C n).map (sh a b)
  | 0 => rfl
  | n + 1 => by rw [gen, gen_sh f g a b C n, nextL_sh]; rfl
theorem map_sh_sh (a b c d : Int) (C : List Cel) : (C.map (sh a b)).map (sh c d) = C.map (sh (a + c) (b + d)) := by
  rw [List.map_map]
  refine List.map_congr_left fun p _ => ?_
  simp only [Function.comp, sh, Prod.mk.injEq]
  omega
theorem map_sh_zero (C : List Cel) : C.map (sh 0 0) = C := by
  have : sh 0 0 = id := by funext c; simp [sh]
  rw [this, List.map_id]
/-- What has come back once goes on coming back. -/
theorem gen_cycle {f g : Nat → Bool} {C : List Cel} {s p : Nat} {d1 d2 : Int} (h : gen f g C (s + p) = (gen f g C s).map (sh d1 d2)) (j : Nat) : ∀ k : Nat, gen f g C (s + j + k * p) = (gen f g C (s + j)).map (sh ((k : Int) * d1) ((k : Int) * d2))
  | 0 => by simp [map_sh_zero]
  | k + 1 => by
    have e : s + j + (k + 1) * p = (s + p) + (j + k * p) := by rw [Nat.add_mul]; omega
    rw [e, gen_add, h, gen_sh, ← gen_add, show s + (j + k * p) = s + j + k * p by omega, gen_cycle h j k, map_sh_sh]
    congr 1
    rw [show ((k + 1 : Nat) : Int) = (k : Int) + 1 by omega, Int.add_mul, Int.add_mul, Int.one_mul, Int.one_mul]
theorem way_eq {A B : List Cel} (h : wayB A B = true) : B = A.map (sh (wayD A B).1 (wayD A B).2) := by
  unfold wayB at h; exact (of_decide_eq_true h).symm
/-- Late generations are generations. -/
theorem lateL_gen {f g : Nat → Bool} {C : List Cel} {t s : Nat} {n : Int} (hst : s < t) (hw : wayB (gen f g C s) (gen f g C t) = true) (hn : (s : Int) ≤ n) : lateL f g C t s n = gen f g C n.toNat := by
  unfold lateL
  have h0 := way_eq hw
  obtain ⟨p, rfl⟩ : ∃ p, t = s + p := ⟨t - s, by omega⟩
  rw [show ((s + p : Nat) : Int) - (s : Int) = (p : Int) by omega]
  obtain ⟨m, rfl⟩ : ∃ m : Nat, n = (s : Int) + (m : Int) := ⟨(n - s).toNat, by omega⟩
  rw [show (s : Int) + (m : Int) - (s : Int) = (m : Int) by omega]
  have e1 : ((m : Int) % (p : Int)).toNat = m % p := by rw [← Int.natCast_emod, Int.toNat_natCast]
  have e2 : (m : Int) / (p : Int) = ((m / p : Nat) : Int) := by rw [Int.natCast_ediv]
  rw [e1, e2]
  have := gen_cycle h0 (m % p) (m / p)
  rw [← this]
  congr 1
  have h3 := Nat.mod_add_div m p
  rw [Nat.mul_comm] at h3
  omega
theorem came_way {f g : Nat → Bool} {C : List Cel} {t s : Nat} (h : cameB f g C t = some s) : wayB (gen f g C s) (gen f g C t) = true := by
  unfold cameB at h
  have := List.find?_some h
  simpa using this
/-- What is reached is generation n. -/
theorem reachR_gen {f g : Nat → Bool} {C D : List Cel} {n : Int} (h : reachR f g C n = .inr D) : D = gen f g C n.toNat := by
  unfold reachR at h
  split at h
  · split at h
    · cases h; rfl
    · cases h
  · split at h
    · cases h
    · rename_i hn x t s hc
      cases h
      obtain ⟨h1, h2⟩ := courseF_s 201 0 hc
      have h3 := cameB_lt h2
      exact lateL_gen h3 (came_way h2) (by omega)
theorem afterR_reach {f g : Nat → Bool} {C D : List Cel} {n : Int} (h : afterR f g C n = .inr D) : reachR f g C n = .inr D ∧ farL D = false ∧ 0 ≤ n ∧ n ≤ 1000000000000000000 := by
  unfold afterR at h
  split at h
  · cases h
  split at h
  · cases h
  rename_i hn _ D' hr
  split at h
  · cases h
  rename_i hf
  cases h
  exact ⟨hr, by simpa using hf, by omega, by omega⟩
theorem afterR_gen {f g : Nat → Bool} {C D : List Cel} {n : Int} (h : afterR f g C n = .inr D) : D = gen f g C n.toNat := reachR_gen (afterR_reach h).1
/-- Up to 200: so many generations and then so many more are so many together. -/
theorem afterR_add {f g : Nat → Bool} {C D : List Cel} {a b : Int} (h : afterR f g C a = .inr D) (hb : 0 ≤ b) (hab : a + b ≤ 200) : afterR f g D b = afterR f g C (a + b) := by
  obtain ⟨hr, hf, h0, h1⟩ := afterR_reach h
  have hD := reachR_gen hr
  have hok : okTo f g C a.toNat = true := by
    unfold reachR at hr
    rw [if_pos (by omega)] at hr
    split at hr
    · assumption
    · cases hr
  have e : (a + b).toNat = a.toNat + b.toNat := by omega
  have hg : gen f g D b.toNat = gen f g C (a + b).toNat := by rw [hD, e, gen_add]
  have hk : okTo f g D b.toNat = okTo f g C (a + b).toNat := by
    rw [Bool.eq_iff_iff, okTo_iff, okTo_iff]
    have ho := okTo_iff.1 hok
    refine ⟨fun h r hr => ?_, fun h r hr => ?_⟩
    · by_cases h2 : r ≤ a.toNat
      · exact ho r h2
      · have := h (r - a.toNat) (by omega)
        rw [hD, ← gen_add, show a.toNat + (r - a.toNat) = r by omega] at this
        exact this
    · rw [hD, ← gen_add]
      exact h _ (by omega)
  have hR : reachR f g D b = reachR f g C (a + b) := by
    unfold reachR
    rw [if_pos (show b ≤ 200 by omega), if_pos (show a + b ≤ 200 by omega), hk, hg]
  unfold afterR
  rw [if_neg (show ¬ (b < 0 ∨ 1000000000000000000 < b) by omega), if_neg (show ¬ (a + b < 0 ∨ 1000000000000000000 < a + b) by omega), hR]

theorem courseF_ne {f g : Nat → Bool} {C : List Cel} : ∀ (k t0 : Nat) {e : Int}, courseF f g C k t0 = .inl e → e ≠ 0
  | 0, _, _, h => by simp [courseF] at h; omega
  | k + 1, t0, e, h => by
    rw [courseF] at h
    split at h
    · cases h; decide
    cases hc : cameB f g C t0 with
    | none => rw [hc] at h; exact courseF_ne k (t0 + 1) h
    | some s0 => rw [hc] at h; cases h
theorem reachR_ne {f g : Nat → Bool} {C : List Cel} {n k : Int} (h : reachR f g C n = .inl k) : k ≠ 0 := by
  unfold reachR at h
  split at h
  · split at h
    · cases h
    · cases h; decide
  · split at h
    · rename_i hc; cases h; exact courseF_ne 201 0 hc
    · cases h
theorem afterR_ne {f g : Nat → Bool} {C : List Cel} {n k : Int} (h : afterR f g C n = .inl k) : k ≠ 0 := by
  unfold afterR at h
  split at h
  · cases h; decide
  split at h
  · rename_i hr; cases h; exact reachR_ne hr
  · split at h
    · cases h; decide
    · cases h

theorem courseF_none {f g : Nat → Bool} {C : List Cel} : ∀ (k t0 : Nat) {t s : Nat}, courseF f g C k t0 = .inr (t, s) → ∀ r, t0 ≤ r → r < t → cameB f g C r = none
  | 0, _, _, _, h => by simp [courseF] at h
  | k + 1, t0, t, s, h => fun r h0 h1 => by
    rw [courseF] at h
    split at h
    · cases h
    cases hc : cameB f g C t0 with
    | none =>
      rw [hc] at h
      by_cases e : r = t0
      · subst e; exact hc
      · exact courseF_none k (t0 + 1) h r (by omega) h1
    | some s0 => rw [hc] at h; cases h; omega
theorem cameB_no {f g : Nat → Bool} {C : List Cel} {r s : Nat} (h : cameB f g C r = none) (hs : s < r) : wayB (gen f g C s) (gen f g C r) = false := by
  unfold cameB at h
  have := List.find?_eq_none.1 h s (List.mem_range.2 hs)
  simpa using this
/-- Of a pattern that comes back every generation is an earlier one, moved. -/
theorem gen_back {f g : Nat → Bool} {C : List Cel} {t s : Nat} (hst : s < t) (hw : wayB (gen f g C s) (gen f g C t) = true) (n : Nat) : ∃ r a b, r < t ∧ gen f g C n = (gen f g C r).map (sh a b) := by
  by_cases h : n < t
  · exact ⟨n, 0, 0, h, (map_sh_zero _).symm⟩
  · have := lateL_gen (n := (n : Int)) hst hw (by omega)
    rw [Int.toNat_natCast] at this
    unfold lateL at this
    have m1 := Int.emod_nonneg ((n : Int) - (s : Int)) (b := (t : Int) - (s : Int)) (by omega)
    have m2 := Int.emod_lt_of_pos ((n : Int) - (s : Int)) (b := (t : Int) - (s : Int)) (by omega)
    exact ⟨_, _, _, by omega, this.symm⟩
theorem gen_len {f g : Nat → Bool} {C : List Cel} {t s : Nat} (hc : course f g C = .inr (t, s)) (n : Nat) : (gen f g C n).length ≤ 100 := by
  obtain ⟨h1, h2⟩ := courseF_s 201 0 hc
  obtain ⟨r, a, b, hr, h⟩ := gen_back (cameB_lt h2) (came_way h2) n
  rw [h, List.length_map]
  exact courseF_len 201 0 hc r (Nat.zero_le _) (by omega)
/-- What Step tells of a pattern that comes back. -/
theorem afterR_course {f g : Nat → Bool} {C : List Cel} {t s : Nat} {n : Int} (hc : course f g C = .inr (t, s)) (h0 : 0 ≤ n) (h1 : n ≤ 1000000000000000000) : afterR f g C n = if farL (gen f g C n.toNat) = true then .inl 4 else .inr (gen f g C n.toNat) := by
  have hr : reachR f g C n = .inr (gen f g C n.toNat) := by
    unfold reachR
    by_cases hn : n ≤ 200
    · rw [if_pos hn, if_pos (okTo_iff.2 fun r _ => gen_len hc r)]
    · obtain ⟨h2, h3⟩ := courseF_s 201 0 hc
      have h4 := cameB_lt h3
      rw [if_neg hn, hc]
      simp only
      rw [lateL_gen h4 (came_way h3) (by omega)]
  unfold afterR
  rw [if_neg (show ¬ (n < 0 ∨ 1000000000000000000 < n) by omega), hr]
theorem courseF_err {f g : Nat → Bool} {C : List Cel} : ∀ (k t0 : Nat) {e : Int}, courseF f g C k t0 = .inl e → e = 5 ∨ e = 7
  | 0, _, _, h => by simp [courseF] at h; omega
  | k + 1, t0, e, h => by
    rw [courseF] at h
    split at h
    · cases h; exact .inl rfl
    cases hc : cameB f g C t0 with
    | none => rw [hc] at h; exact courseF_err k (t0 + 1) h
    | some s0 => rw [hc] at h; cases h
/-- k periods on. -/
theorem gen_periods {f g : Nat → Bool} {C : List Cel} {t s : Nat} (hst : s < t) (hw : wayB (gen f g C s) (gen f g C t) = true) (j k : Nat) : gen f g C (s + j + k * (t - s)) = (gen f g C (s + j)).map (sh ((k : Int) * (wayD (gen f g C s) (gen f g C t)).1) ((k : Int) * (wayD (gen f g C s) (gen f g C t)).2)) := by
  have h0 := way_eq hw
  obtain ⟨p, rfl⟩ : ∃ p, t = s + p := ⟨t - s, by omega⟩
  rw [show s + p - s = p by omega]
  exact gen_cycle h0 j k

end Go.Proofs.YtiohpcnnpmnjhaaGreatDoor
