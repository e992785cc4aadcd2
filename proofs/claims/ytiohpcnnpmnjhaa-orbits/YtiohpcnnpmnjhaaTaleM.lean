import Derived.Test.YtiohpcnnpmnjhaaSearch
import Derived.Test.YtiohpcnnpmnjhaaCompareC
import Derived.Test.YtiohpcnnpmnjhaaBoth
import Derived.Test.YtiohpcnnpmnjhaaFollow
import Derived.Test.YtiohpcnnpmnjhaaMoveAnyM
import Derived.Test.YtiohpcnnpmnjhaaWindow
namespace Go.Proofs.Ytiohpcnnpmnjhaa
open Go.RowKit
set_option linter.unusedVariables false

theorem compare_does : CompareDoes := fun a b c d w => (compare_any a b c d w).mono (by
  rintro e w' ⟨rfl, rfl⟩
  exact ⟨rfl, below_drewN ((((Below.refl _ _).alloc (Nat.le_refl _) _).alloc (by simp) _).alloc (by simp only [World.size_alloc]; omega) _) 1⟩)

set_option maxHeartbeats 800000 in
theorem has_any (v : Value) (C : List Cel) (x y : Int) (w : World) (h : RowAt w v C) (hl : C.length ≤ 1000000) (hasc : Asc C) :
    Calls Try.prog 62 #[v, .agg #[.int .i64 x, .int .i64 y]] w fun e w' => e = .returned (.bool (decide ((x, y) ∈ C))) ∧ Below w.heap.size w w' := by
  have hS := fun (w' : World) (hb : Below w.heap.size w w') => search_any compare_does v C x y w' (h.below hb) hl hasc
  clear hasc
  go_enter Try.func62, Try.ntmps62
  have hb0 : Below w.heap.size w (w.alloc (.cells #[.int .i64 x, .int .i64 y] 99)) := (Below.refl _ _).alloc (Nat.le_refl _) _
  have hS0 := hS _ hb0
  clear hS
  have c0 := cell_of (blk_new w (.cells #[.int .i64 x, .int .i64 y] 99)) 0
  have c1 := cell_of (blk_new w (.cells #[.int .i64 x, .int .i64 y] 99)) 1
  go_wp2_with (go_at_call 76; refine hS0.mono ?_; rintro e w1 ⟨⟨i, rfl⟩, hb1⟩)
  go_ret
  exact ⟨rfl, hb0.trans (hb1.mono hb0.size)⟩

end Go.Proofs.Ytiohpcnnpmnjhaa

namespace Go.Proofs.Ytiohpcnnpmnjhaa
open Go.RowKit
set_option linter.unusedVariables false

theorem next_does : NextDoes := fun f g v b nn C D0 w h1 h2 h3 h4 h5 => next_walk (fun v C x y w h hl ha => has_any v C x y w h hl ha) f g v b nn C D0 w h1 h2 h3 h4 h5
theorem fine_roam {f g : Nat → Bool} {C : List Cel} {X Y : Int} (h : Fine C X Y) : ∀ t, t ≤ 300 → Roam X Y (gen f g C t) := fun t ht =>
  gen_roam ⟨h.x1, h.x2⟩ ⟨h.y1, h.y2⟩ (fun c hc => by have := h.win c hc; unfold inWin at this; omega) ht
/-- What readStory leaves. -/
def StoryOut (rule text : ByteArray) (w : World) (e : Ending) (w' : World) : Prop :=
  Below w.heap.size w w' ∧ match ruleR rule with
    | .inl (k, i) => e = .panicked (refusal k i)
    | .inr (f, g) => match patR text with
      | .inl (k, i) => e = .panicked (refusal k i)
      | .inr C => match course f g C with
        | .inl k => e = .panicked (refusal k 0)
        | .inr (t, s) => t ≤ 200 ∧ s < t ∧ cameB f g C t = some s ∧ ∃ gs vs, vs.length = t + 1 ∧ e = .returned (.agg (storyV gs (cycOf f g C t))) ∧ Rows2 w' 0 w.heap.size f g C vs gs
theorem storyOut_bad {rule text : ByteArray} {w w' : World} {k i : Int} (hb : Below w.heap.size w w') (h : (∃ k' i', ruleR rule = .inl (k', i') ∧ k = k' ∧ i = (i' : Int)) ∨ (∃ f g, ruleR rule = .inr (f, g) ∧ ((∃ k' i', patR text = .inl (k', i') ∧ k = k' ∧ i = (i' : Int)) ∨ ∃ C, patR text = .inr C ∧ course f g C = .inl k ∧ i = 0))) :
    StoryOut rule text w (.panicked (refusal k i)) w' := by
  refine ⟨hb, ?_⟩
  rcases h with ⟨k', i', h1, rfl, rfl⟩ | ⟨f, g, h1, (⟨k', i', h2, rfl, rfl⟩ | ⟨C, h2, h3, rfl⟩)⟩
  · rw [h1]
  · rw [h1, h2]
  · rw [h1, h2]
    simp only [h3]

theorem Rows2.setRow {W : World} {S B B' : Nat} {f g : Nat → Bool} {C : List Cel} {vs : List Value} {gs : Value} (h : Rows2 W 0 B f g C vs gs) (hB : B' ≤ B) {cs : Array Value} (hS : W.heap[S]? = some (.cells cs 50 (0, 0))) (V : Array Value) : Rows2 (W.setRow S V) 0 B' f g C vs gs := by
  have key : ∀ {e m n : Nat} {B' : Nat} {v : Value} {xs : List Value}, e ≠ 50 → W.ownsRow B' e m v n xs → (W.setRow S V).ownsRow B' e m v n xs := fun {e m n B' v xs} he hr => hr.kept (row := some S) ⟨rfl, rfl, rfl, by simp, fun k _ hk => setRow_other W S k V (fun e => hk (by rw [e]))⟩ (Or.inr fun e1 => by
    rcases hr.2 with ⟨rfl, _⟩ | ⟨g2, c2, cur2, rfl, _, hh, _⟩
    · cases e1
    · have := Option.some.inj e1
      simp only at this
      rw [this, hS] at hh; cases hh; exact he rfl)
  exact ⟨ownsRow_low (key (by decide) h.own) hB, fun i v hv => key (by decide) (h.all i v hv)⟩
theorem z5_new (w : World) : (w.alloc (.cells #[.slice none 0 0, .int .i64 0, .int .i64 0, .int .i64 0, .int .i64 0] 50)).heap[w.heap.size]? = some (.cells (storyV (.slice none 0 0) (0, 0, 0, 0)) 50 (0, 0)) := blk_new w _

set_option maxRecDepth 100000 in
set_option maxHeartbeats 1600000 in
theorem readStory_any (rule text : ByteArray) (w : World) (h1 : rule.size ≤ maxLen) (h2 : text.size ≤ maxLen) :
    Calls Try.prog 16 #[.string rule, .string text] w (StoryOut rule text w) := by
  have hBo := fun w => readBoth_any rule text w h1 h2
  have hz := z5_new w
  cases hr : ruleR rule with
  | inl x =>
    obtain ⟨k, i⟩ := x
    go_enter Try.func16, Try.ntmps16
    go_wp2_with (go_at_call 24; refine (hBo _).mono ?_; intro e w1 ho; unfold BothOut at ho; rw [hr] at ho; obtain ⟨hb, he⟩ := ho; simp only at he; subst he)
    exact ⟨rfl, storyOut_bad (((Below.refl _ _).alloc (Nat.le_refl _) _).trans (hb.mono (by simp))) (.inl ⟨k, i, hr, rfl, rfl⟩)⟩
  | inr x =>
    obtain ⟨f, g⟩ := x
    cases hp : patR text with
    | inl x =>
      obtain ⟨k, i⟩ := x
      go_enter Try.func16, Try.ntmps16
      go_wp2_with (go_at_call 24; refine (hBo _).mono ?_; intro e w1 ho; unfold BothOut at ho; rw [hr] at ho; simp only [hp] at ho; obtain ⟨hb, he⟩ := ho; subst he)
      exact ⟨rfl, storyOut_bad (((Below.refl _ _).alloc (Nat.le_refl _) _).trans (hb.mono (by simp))) (.inr ⟨f, g, hr, .inl ⟨k, i, hp, rfl, rfl⟩⟩)⟩
    | inr C =>
      obtain ⟨X, Y, hf⟩ := patR_fine hp
      have hF := fun v w own => callsIn_wide.1 (follow_walk moveTo_does next_does f g C X Y hf.asc (fine_roam hf) hf.len v w own)
      have HL : Hid ((Try.prog.info? 44).map (·.size) = some (twoN f g).size) := infoL
      have H1 : Hid ((twoN f g).all (·.oneCell') = true) := twoN_one f g
      have HS : Hid ((twoN noD noD).size = (twoN f g).size) := rfl
      obtain ⟨L, hL⟩ : ∃ L, twoN f g = L := ⟨_, rfl⟩
      rw [hL] at HL H1 HS
      simp only [hL] at hF
      go_enter Try.func16, Try.ntmps16
      go_wp2_with (first
        | (go_at_call 24; refine (hBo _).mono ?_; intro e w1 ho; unfold BothOut at ho; rw [hr] at ho; simp only [hp] at ho; rw [hL] at ho; clear hL; obtain ⟨hb1, v, rfl, own⟩ := ho)
        | (refine wpList_store_row rfl 44 (Operand.tmp 5) (Operand.tmp 11) rfl w1.heap.size L rfl rfl 44 (twoN noD noD) (z18_law w1) HL.out HS.out H1.out ?_; go_frame; have bL := setRow_heap (w1.alloc (.cells Z18 44)) w1.heap.size (twoN noD noD) L 44 (0, 0) (z18_law w1))
        | (refine wpList_load_row rfl 44 (Operand.tmp 5) rfl w1.heap.size rfl 44 L (0, 0) _ bL Try.underlying44 rfl HL.out ?_))
      change Calls _ _ _ ((w1.alloc (.cells Z18 44)).setRow w1.heap.size L) _
      have hsz : w.heap.size + 1 ≤ w1.heap.size := by have := hb1.size; simpa using this
      have bR : ((w1.alloc (.cells Z18 44)).setRow w1.heap.size L).heap[w.heap.size]? = some (.cells (storyV (.slice none 0 0) (0, 0, 0, 0)) 50 (0, 0)) :=
        (setRow_other _ _ _ _ (by omega)).trans ((Below.heap_alloc w1 _ _ (by omega)).trans ((hb1.block _ (by simp)).trans hz))
      have bw : Below w.heap.size w ((w1.alloc (.cells Z18 44)).setRow w1.heap.size L) := below_row ((((Below.refl _ w).alloc (Nat.le_refl _) _).trans (hb1.mono (by simp))).alloc (by omega) _) (by omega) L
      have own2 : ((w1.alloc (.cells Z18 44)).setRow w1.heap.size L).ownsRow 0 99 2 v C.length (flatC C) := by
        have o1 := (ownsRow_low own (Nat.zero_le _)).alloc (.cells Z18 44)
        refine o1.kept (row := some w1.heap.size) ⟨rfl, rfl, rfl, by simp, fun k _ hk => setRow_other _ _ k L (fun e => hk (by rw [e]))⟩ (Or.inr fun e => ?_)
        have := (own.lt _ e).2
        omega
      clear bL hz hb1 own
      generalize ((w1.alloc (.cells Z18 44)).setRow w1.heap.size L) = W2 at *
      have hFx := hF v W2 own2
      clear hF
      cases hco : course f g C with
      | inl k =>
        refine hFx.mono ?_
        intro e w3 ho
        unfold FollowOut at ho
        rw [hco] at ho
        obtain ⟨hb3, rfl⟩ := ho
        exact ⟨rfl, storyOut_bad (bw.trans (hb3.mono bw.size)) (.inr ⟨f, g, hr, .inr ⟨C, hp, hco, rfl⟩⟩)⟩
      | inr x =>
        obtain ⟨t, s'⟩ := x
        refine hFx.mono ?_
        intro e w3 ho
        unfold FollowOut at ho
        rw [hco] at ho
        obtain ⟨hb3, g1, g2, g3, gs, vs, g4, rfl, g5⟩ := ho
        have bR3 := (hb3.block _ (blk_lt bR)).trans bR
        obtain ⟨ag, cg, hgs⟩ := row_slice g5.own
        have H5 : Hid ((storyV gs (cycOf f g C t)).all (·.oneCell') = true) := by
          show _ = _
          rw [hgs]; simp [storyV, Value.oneCell']
        have HSV : Hid ((Try.prog.info? 50).map (·.size) = some (storyV gs (cycOf f g C t)).size) := infoS
        have HSZ : Hid ((storyV (.slice none 0 0) (0, 0, 0, 0)).size = (storyV gs (cycOf f g C t)).size) := rfl
        have HO : Hid (∀ w', Below w.heap.size w w' → Rows2 w' 0 w.heap.size f g C vs gs → StoryOut rule text w (.returned (.agg (storyV gs (cycOf f g C t)))) w') := by
          intro w' hb hr2
          refine ⟨hb, ?_⟩
          rw [hr, hp]
          simp only [hco]
          exact ⟨g1, g2, g3, gs, vs, g4, rfl, hr2⟩
        obtain ⟨V, hV⟩ : ∃ V, storyV gs (cycOf f g C t) = V := ⟨_, rfl⟩
        rw [hV] at H5 HSV HSZ HO ⊢
        clear hV hgs hco hr hp hFx
        go_wp2_with (refine wpList_store_row rfl 50 (Operand.tmp 4) (Operand.tmp 15) rfl w.heap.size V rfl rfl 50 (storyV (.slice none 0 0) (0, 0, 0, 0)) bR3 HSV.out HSZ.out H5.out ?_)
        have r4 := setRow_heap w3 w.heap.size (storyV (.slice none 0 0) (0, 0, 0, 0)) V 50 (0, 0) bR3
        have b4 : Below w.heap.size w (w3.setRow w.heap.size V) := below_row (bw.trans (hb3.mono bw.size)) (Nat.le_refl _) V
        exact bodyPost_ret (v := .agg V) (results_cell_row Try.results16 _ _ w.heap.size 50 V (0, 0) _ rfl r4 Try.underlying50 rfl HSV.out) rfl (HO.out _ b4 (g5.setRow bw.size bR3 V))

end Go.Proofs.Ytiohpcnnpmnjhaa
