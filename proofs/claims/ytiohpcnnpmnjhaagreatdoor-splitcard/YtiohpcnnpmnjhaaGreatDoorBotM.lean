import Derived.Test.YtiohpcnnpmnjhaaGreatDoorRulM
import Derived.Test.YtiohpcnnpmnjhaaGreatDoorFrmM
import Derived.Test.YtiohpcnnpmnjhaaGreatDoorSrtM
import Derived.Test.YtiohpcnnpmnjhaaGreatDoorSearch
import Derived.Test.YtiohpcnnpmnjhaaGreatDoorCompareC
import Derived.Test.YtiohpcnnpmnjhaaGreatDoorStoM
import Derived.Test.YtiohpcnnpmnjhaaGreatDoorReader
import Derived.Defers
import Derived.Recover
import Derived.RegionTactic
import Derived.ChangeAlike
namespace Go.Proofs.YtiohpcnnpmnjhaaGreatDoor
open Go.RowKit
set_option linter.unusedVariables false

theorem z18_law (w : World) : (w.alloc (.cells Z18 69)).heap[w.heap.size]? = some (.cells (twoN noD noD) 69 (0, 0)) := blk_new w _
/-- What readBoth leaves. -/
def BothOut (rule text : ByteArray) (w : World) (e : Ending) (w' : World) : Prop :=
  Below w.heap.size w w' ∧ match ruleR rule with
    | .inl (k, i) => e = .panicked (refusal k i)
    | .inr (f, g) => match patR text with
      | .inl (k, i) => e = .panicked (refusal k i)
      | .inr C => ∃ v, e = .returned (.tuple #[.agg (twoN f g), v]) ∧ w'.ownsRow w.heap.size 113 2 v C.length (flatC C)
theorem below_setRow {n : Nat} {w W : World} (h : Below n w W) {g : Nat} (hg : n ≤ g) (cs : Array Value) : Below n w (W.setRow g cs) :=
  h.trans ⟨rfl, rfl, rfl, by simp, fun k hk => setRow_other W g k cs (by omega)⟩

set_option maxRecDepth 100000 in
set_option maxHeartbeats 1600000 in
theorem readBoth_any (rule text : ByteArray) (w : World) (h1 : rule.size ≤ maxLen) (h2 : text.size ≤ maxLen) :
    Calls Tryz.prog 40 #[.string rule, .string text] w (BothOut rule text w) := by
  have hR := fun w => readRule_any rule w h1
  have hP := fun w => readPattern_any text w h2
  cases hr : ruleR rule with
  | inl x =>
    obtain ⟨k, i⟩ := x
    go_enter Tryz.func40, Tryz.ntmps40
    go_wp2_with (go_at_call 62; refine (hR _).mono ?_; intro e w1 ho; unfold LawOut at ho; rw [hr] at ho; obtain ⟨hb, he⟩ := ho; simp only at he; subst he)
    refine ⟨rfl, ?_⟩
    unfold BothOut
    rw [hr]
    exact ⟨((Below.refl _ _).alloc (Nat.le_refl _) _).trans (hb.mono (by simp)), rfl⟩
  | inr x =>
    obtain ⟨f, g⟩ := x
    have HL : Hid ((Tryz.prog.info? 69).map (·.size) = some (twoN f g).size) := infoL
    have H1 : Hid ((twoN f g).all (·.oneCell') = true) := twoN_one f g
    have HS : Hid ((twoN noD noD).size = (twoN f g).size) := rfl
    obtain ⟨L, hL⟩ : ∃ L, twoN f g = L := ⟨_, rfl⟩
    have HT : Hid (∀ e w', BothOut rule text w e w' ↔ Below w.heap.size w w' ∧ match patR text with
      | .inl (k, i) => e = .panicked (refusal k i)
      | .inr C => ∃ v, e = .returned (.tuple #[.agg L, v]) ∧ w'.ownsRow w.heap.size 113 2 v C.length (flatC C)) := by
      intro e w'
      unfold BothOut
      rw [hr, ← hL]
    rw [hL] at HL H1 HS
    go_enter Tryz.func40, Tryz.ntmps40
    go_wp2_with (first
      | (go_at_call 62; refine (hR _).mono ?_; intro e w1 ho; unfold LawOut at ho; rw [hr] at ho; obtain ⟨hb1, he⟩ := ho; simp only at he; rw [hL] at he; clear hr hL; subst he)
      | (refine wpList_store_row rfl 69 (Operand.tmp 6) (Operand.tmp 8) rfl w1.heap.size L rfl rfl 69 (twoN noD noD) (z18_law w1) HL.out HS.out H1.out ?_))
    go_frame
    have sz : w.heap.size < w1.heap.size := by have := hb1.size; simp at this; omega
    have bw1 : Below w.heap.size w w1 := ((Below.refl _ _).alloc (Nat.le_refl _) _).trans (hb1.mono (by simp))
    have bL := setRow_heap (w1.alloc (.cells Z18 69)) w1.heap.size (twoN noD noD) L 69 (0, 0) (z18_law w1)
    have bR : ((w1.alloc (.cells Z18 69)).setRow w1.heap.size L).heap[w.heap.size]? = some (.cells (twoN noD noD) 69 (0, 0)) :=
      (setRow_other _ _ _ _ (by omega)).trans ((Below.heap_alloc w1 _ _ sz).trans ((hb1.block _ (by simp)).trans (z18_law w)))
    have bW2 : Below w.heap.size w ((w1.alloc (.cells Z18 69)).setRow w1.heap.size L) := below_row (bw1.alloc bw1.size _) (by omega) L
    clear hb1 bw1
    change Code.wp _ _ _ _ ((w1.alloc (.cells Z18 69)).setRow w1.heap.size L)
    generalize ((w1.alloc (.cells Z18 69)).setRow w1.heap.size L) = W2 at *
    have bL' : W2.drew.heap[w1.heap.size]? = some (.cells L 69 (0, 0)) := bL
    have bR' : W2.drew.heap[w.heap.size]? = some (.cells (twoN noD noD) 69 (0, 0)) := bR
    have bW2' : Below w.heap.size w W2.drew := bW2.drew
    refine wp_region_any (by kernel_rfl) ?_
    change wpAny _ _ _ _ _ _ _ (World.drew _)
    refine wpAny_take (i := 1) (v := .string text) rfl (by kernel_rfl) (by kernel_rfl) (by kernel_rfl) (fun _ _ _ h => h) (Or.inl ⟨by rfl, fun w => by go_simp⟩) ?_
    cases hp : patR text with
    | inl x =>
      obtain ⟨k, i⟩ := x
      refine wpAny_ready (rs := [0, 2]) (by kernel_rfl) (by simp) (AllReady.cons rfl (fun K hK => ?_) (AllReady.cons rfl (fun K hK => ?_) AllReady.nil))
      · refine (if_pos (by rfl)).mpr (wp_load_row 69 (Operand.tmp 6) rfl w1.heap.size rfl 69 L (0, 0) _ bL' Tryz.underlying69 rfl HL.out (hK _ _ ?_))
        clear hK K
        refine wpAny_ready (rs := [2]) (by kernel_rfl) (by simp) (AllReady.cons rfl (fun K hK => ?_) AllReady.nil)
        go_simp
        refine (hP _).mono ?_
        intro e w3 ho
        unfold PatOut at ho
        rw [hp] at ho
        obtain ⟨hb3, he⟩ := ho
        simp only at he
        subst he
        exact ⟨rfl, (HT.out _ _).2 ⟨bW2'.trans (hb3.mono bW2'.size), by rw [hp]⟩⟩
      · go_simp
        refine (hP _).mono ?_
        intro e w3 ho
        unfold PatOut at ho
        rw [hp] at ho
        obtain ⟨hb3, he⟩ := ho
        simp only at he
        subst he
        exact ⟨rfl, (HT.out _ _).2 ⟨bW2'.trans (hb3.mono bW2'.size), by rw [hp]⟩⟩
    | inr C =>
      refine wpAny_ready (rs := [0, 2]) (by kernel_rfl) (by simp) (AllReady.cons rfl (fun K hK => ?_) (AllReady.cons rfl (fun K hK => ?_) AllReady.nil))
      · refine (if_pos (by rfl)).mpr (wp_load_row 69 (Operand.tmp 6) rfl w1.heap.size rfl 69 L (0, 0) _ bL' Tryz.underlying69 rfl HL.out (hK _ _ ?_))
        clear hK K
        refine wpAny_ready (rs := [2]) (by kernel_rfl) (by simp) (AllReady.cons rfl (fun K hK => ?_) AllReady.nil)
        go_simp
        refine (hP _).mono ?_
        intro e w3 ho
        unfold PatOut at ho
        rw [hp] at ho
        obtain ⟨hb3, he⟩ := ho
        simp only at he
        obtain ⟨v, rfl, own⟩ := he
        refine hK _ _ ?_
        clear hK K
        refine wpAny_ready (rs := [3]) (by kernel_rfl) (by simp) (AllReady.cons rfl (fun K hK => ?_) AllReady.nil)
        refine (if_pos (by rfl)).mpr (wp_store_row 69 (Operand.tmp 4) (Operand.tmp 9) rfl w.heap.size L rfl rfl 69 (twoN noD noD) ((hb3.block _ (blk_lt bR')).trans bR') HL.out HS.out H1.out (hK _ _ ?_))
        clear hK K
        refine wpAny_ready (rs := [4]) (by kernel_rfl) (by simp) (AllReady.cons rfl (fun K hK => ?_) AllReady.nil)
        go_simp
        refine hK _ _ ?_
        clear hK K
        refine wpAny_done (by kernel_rfl) ?_ _
        have r3 := setRow_heap w3 w.heap.size (twoN noD noD) L 69 (0, 0) ((hb3.block _ (blk_lt bR')).trans bR')
        have hload := run_loadVar_row (P := Tryz.prog) (w3.setRow w.heap.size L) w.heap.size 69 69 L (0, 0) _ r3 Tryz.underlying69 rfl HL.out
        have own' := (ownsRow_low own (show w.heap.size + 1 ≤ W2.drew.heap.size from blk_lt bR')).kept (w' := w3.setRow w.heap.size L) (row := some w.heap.size) ⟨rfl, rfl, rfl, by simp, fun k _ hk => setRow_other w3 w.heap.size k L (fun e => hk (by rw [e]))⟩ (Or.inr fun e => by have := ((ownsRow_low own (show w.heap.size + 1 ≤ W2.drew.heap.size from blk_lt bR')).lt _ e).1; omega)
        go_wp2
        exact bodyPost_ret (v := .tuple #[.agg L, v]) (by simp [results, Tryz.results40, asAddr, hload]) rfl ((HT.out _ _).2 ⟨below_row (bW2'.trans (hb3.mono bW2'.size)) (Nat.le_refl _) L, by rw [hp]; exact ⟨v, rfl, ownsRow_low own' (by omega)⟩⟩)
      · go_simp
        refine (hP _).mono ?_
        intro e w3 ho
        unfold PatOut at ho
        rw [hp] at ho
        obtain ⟨hb3, he⟩ := ho
        simp only at he
        obtain ⟨v, rfl, own⟩ := he
        refine hK _ _ ?_
        clear hK K
        refine wpAny_ready (rs := [0]) (by kernel_rfl) (by simp) (AllReady.cons rfl (fun K hK => ?_) AllReady.nil)
        refine (if_pos (by rfl)).mpr (wp_load_row 69 (Operand.tmp 6) rfl w1.heap.size rfl 69 L (0, 0) _ ((hb3.block _ (blk_lt bL')).trans bL') Tryz.underlying69 rfl HL.out (hK _ _ ?_))
        clear hK K
        refine wpAny_ready (rs := [3]) (by kernel_rfl) (by simp) (AllReady.cons rfl (fun K hK => ?_) AllReady.nil)
        refine (if_pos (by rfl)).mpr (wp_store_row 69 (Operand.tmp 4) (Operand.tmp 9) rfl w.heap.size L rfl rfl 69 (twoN noD noD) ((hb3.block _ (blk_lt bR')).trans bR') HL.out HS.out H1.out (hK _ _ ?_))
        clear hK K
        refine wpAny_ready (rs := [4]) (by kernel_rfl) (by simp) (AllReady.cons rfl (fun K hK => ?_) AllReady.nil)
        go_simp
        refine hK _ _ ?_
        clear hK K
        refine wpAny_done (by kernel_rfl) ?_ _
        have r3 := setRow_heap w3 w.heap.size (twoN noD noD) L 69 (0, 0) ((hb3.block _ (blk_lt bR')).trans bR')
        have hload := run_loadVar_row (P := Tryz.prog) (w3.setRow w.heap.size L) w.heap.size 69 69 L (0, 0) _ r3 Tryz.underlying69 rfl HL.out
        have own' := (ownsRow_low own (show w.heap.size + 1 ≤ W2.drew.heap.size from blk_lt bR')).kept (w' := w3.setRow w.heap.size L) (row := some w.heap.size) ⟨rfl, rfl, rfl, by simp, fun k _ hk => setRow_other w3 w.heap.size k L (fun e => hk (by rw [e]))⟩ (Or.inr fun e => by have := ((ownsRow_low own (show w.heap.size + 1 ≤ W2.drew.heap.size from blk_lt bR')).lt _ e).1; omega)
        go_wp2
        exact bodyPost_ret (v := .tuple #[.agg L, v]) (by simp [results, Tryz.results40, asAddr, hload]) rfl ((HT.out _ _).2 ⟨below_row (bW2'.trans (hb3.mono bW2'.size)) (Nat.le_refl _) L, by rw [hp]; exact ⟨v, rfl, ownsRow_low own' (by omega)⟩⟩)

end Go.Proofs.YtiohpcnnpmnjhaaGreatDoor

namespace Go.Proofs.YtiohpcnnpmnjhaaGreatDoor
open Go.RowKit
set_option linter.unusedVariables false

theorem compare_does : CompareDoes := fun a b c d w => (compare_any a b c d w).mono (by
  rintro e w' ⟨rfl, rfl⟩
  exact ⟨rfl, below_drewN ((((Below.refl _ _).alloc (Nat.le_refl _) _).alloc (by simp) _).alloc (by simp only [World.size_alloc]; omega) _) 1⟩)

set_option maxHeartbeats 800000 in
theorem has_any (v : Value) (C : List Cel) (x y : Int) (w : World) (h : RowAt w v C) (hl : C.length ≤ 1000000) (hasc : Asc C) :
    Calls Tryz.prog 141 #[v, .agg #[.int .i64 x, .int .i64 y]] w fun e w' => e = .returned (.bool (decide ((x, y) ∈ C))) ∧ Below w.heap.size w w' := by
  have hS := fun (w' : World) (hb : Below w.heap.size w w') => search_any compare_does v C x y w' (h.below hb) hl hasc
  clear hasc
  go_enter Tryz.func141, Tryz.ntmps141
  have hb0 : Below w.heap.size w (w.alloc (.cells #[.int .i64 x, .int .i64 y] 113)) := (Below.refl _ _).alloc (Nat.le_refl _) _
  have hS0 := hS _ hb0
  clear hS
  have c0 := cell_of (blk_new w (.cells #[.int .i64 x, .int .i64 y] 113)) 0
  have c1 := cell_of (blk_new w (.cells #[.int .i64 x, .int .i64 y] 113)) 1
  go_wp2_with (go_at_call 143; refine hS0.mono ?_; rintro e w1 ⟨⟨i, rfl⟩, hb1⟩)
  go_ret
  exact ⟨rfl, hb0.trans (hb1.mono hb0.size)⟩

end Go.Proofs.YtiohpcnnpmnjhaaGreatDoor

namespace Go.Proofs.YtiohpcnnpmnjhaaGreatDoor
open Go.RowKit
set_option linter.unusedVariables false

theorem next_does : NextDoes := fun f g v b nn C D0 w h1 h2 h3 h4 h5 => next_walk (fun v C x y w h hl ha => has_any v C x y w h hl ha) f g v b nn C D0 w h1 h2 h3 h4 h5
theorem fine_roam {f g : Nat → Bool} {C : List Cel} {X Y : Int} (h : Fine C X Y) : ∀ t, t ≤ 300 → Roam X Y (gen f g C t) := fun t ht =>
  gen_roam ⟨h.x1, h.x2⟩ ⟨h.y1, h.y2⟩ (fun c hc => by have := h.win c hc; unfold inWin at this; omega) ht
/-- What readStory leaves. -/
def StoryOut (rule text : ByteArray) (w : World) (e : Ending) (w' : World) : Prop :=
  Below w.heap.size w w' ∧ match ruleR rule with
    | .inl (k, i) => e = .panicked (refusal k i)
    | .inr (f, g) => match patR text with
      | .inl (k, i) => e = .panicked (refusal k i)
      | .inr C => match course f g C with
        | .inl k => e = .panicked (refusal k 0)
        | .inr (t, s) => t ≤ 200 ∧ s < t ∧ cameB f g C t = some s ∧ ∃ gs vs, vs.length = t + 1 ∧ e = .returned (.agg (storyV gs (cycOf f g C t))) ∧ Rows2 w' 0 w.heap.size f g C vs gs
theorem storyOut_bad {rule text : ByteArray} {w w' : World} {k i : Int} (hb : Below w.heap.size w w') (h : (∃ k' i', ruleR rule = .inl (k', i') ∧ k = k' ∧ i = (i' : Int)) ∨ (∃ f g, ruleR rule = .inr (f, g) ∧ ((∃ k' i', patR text = .inl (k', i') ∧ k = k' ∧ i = (i' : Int)) ∨ ∃ C, patR text = .inr C ∧ course f g C = .inl k ∧ i = 0))) :
    StoryOut rule text w (.panicked (refusal k i)) w' := by
  refine ⟨hb, ?_⟩
  rcases h with ⟨k', i', h1, rfl, rfl⟩ | ⟨f, g, h1, (⟨k', i', h2, rfl, rfl⟩ | ⟨C, h2, h3, rfl⟩)⟩
  · rw [h1]
  · rw [h1, h2]
  · rw [h1, h2]
    simp only [h3]

theorem Rows2.setRow {W : World} {S B B' : Nat} {f g : Nat → Bool} {C : List Cel} {vs : List Value} {gs : Value} (h : Rows2 W 0 B f g C vs gs) (hB : B' ≤ B) {cs : Array Value} (hS : W.heap[S]? = some (.cells cs 90 (0, 0))) (V : Array Value) : Rows2 (W.setRow S V) 0 B' f g C vs gs := by
  have key : ∀ {e m n : Nat} {B' : Nat} {v : Value} {xs : List Value}, e ≠ 90 → W.ownsRow B' e m v n xs → (W.setRow S V).ownsRow B' e m v n xs := fun {e m n B' v xs} he hr => hr.kept (row := some S) ⟨rfl, rfl, rfl, by simp, fun k _ hk => setRow_other W S k V (fun e => hk (by rw [e]))⟩ (Or.inr fun e1 => by
    rcases hr.2 with ⟨rfl, _⟩ | ⟨g2, c2, cur2, rfl, _, hh, _⟩
    · cases e1
    · have := Option.some.inj e1
      simp only at this
      rw [this, hS] at hh; cases hh; exact he rfl)
  exact ⟨ownsRow_low (key (by decide) h.own) hB, fun i v hv => key (by decide) (h.all i v hv)⟩
theorem z5_new (w : World) : (w.alloc (.cells #[.slice none 0 0, .int .i64 0, .int .i64 0, .int .i64 0, .int .i64 0] 90)).heap[w.heap.size]? = some (.cells (storyV (.slice none 0 0) (0, 0, 0, 0)) 90 (0, 0)) := blk_new w _

set_option maxRecDepth 100000 in
set_option maxHeartbeats 1600000 in
theorem readStory_any (rule text : ByteArray) (w : World) (h1 : rule.size ≤ maxLen) (h2 : text.size ≤ maxLen) :
    Calls Tryz.prog 51 #[.string rule, .string text] w (StoryOut rule text w) := by
  have hBo := fun w => readBoth_any rule text w h1 h2
  have hz := z5_new w
  cases hr : ruleR rule with
  | inl x =>
    obtain ⟨k, i⟩ := x
    go_enter Tryz.func51, Tryz.ntmps51
    go_wp2_with (go_at_call 40; refine (hBo _).mono ?_; intro e w1 ho; unfold BothOut at ho; rw [hr] at ho; obtain ⟨hb, he⟩ := ho; simp only at he; subst he)
    exact ⟨rfl, storyOut_bad (((Below.refl _ _).alloc (Nat.le_refl _) _).trans (hb.mono (by simp))) (.inl ⟨k, i, hr, rfl, rfl⟩)⟩
  | inr x =>
    obtain ⟨f, g⟩ := x
    cases hp : patR text with
    | inl x =>
      obtain ⟨k, i⟩ := x
      go_enter Tryz.func51, Tryz.ntmps51
      go_wp2_with (go_at_call 40; refine (hBo _).mono ?_; intro e w1 ho; unfold BothOut at ho; rw [hr] at ho; simp only [hp] at ho; obtain ⟨hb, he⟩ := ho; subst he)
      exact ⟨rfl, storyOut_bad (((Below.refl _ _).alloc (Nat.le_refl _) _).trans (hb.mono (by simp))) (.inr ⟨f, g, hr, .inl ⟨k, i, hp, rfl, rfl⟩⟩)⟩
    | inr C =>
      obtain ⟨X, Y, hf⟩ := patR_fine hp
      have hF := fun v w own => callsIn_wide.1 (follow_walk moveTo_does next_does f g C X Y hf.asc (fine_roam hf) hf.len v w own)
      have HL : Hid ((Tryz.prog.info? 69).map (·.size) = some (twoN f g).size) := infoL
      have H1 : Hid ((twoN f g).all (·.oneCell') = true) := twoN_one f g
      have HS : Hid ((twoN noD noD).size = (twoN f g).size) := rfl
      obtain ⟨L, hL⟩ : ∃ L, twoN f g = L := ⟨_, rfl⟩
      rw [hL] at HL H1 HS
      simp only [hL] at hF
      go_enter Tryz.func51, Tryz.ntmps51
      go_wp2_with (first
        | (go_at_call 40; refine (hBo _).mono ?_; intro e w1 ho; unfold BothOut at ho; rw [hr] at ho; simp only [hp] at ho; rw [hL] at ho; clear hL; obtain ⟨hb1, v, rfl, own⟩ := ho)
        | (refine wpList_store_row rfl 69 (Operand.tmp 5) (Operand.tmp 11) rfl w1.heap.size L rfl rfl 69 (twoN noD noD) (z18_law w1) HL.out HS.out H1.out ?_; go_frame; have bL := setRow_heap (w1.alloc (.cells Z18 69)) w1.heap.size (twoN noD noD) L 69 (0, 0) (z18_law w1))
        | (refine wpList_load_row rfl 69 (Operand.tmp 5) rfl w1.heap.size rfl 69 L (0, 0) _ bL Tryz.underlying69 rfl HL.out ?_))
      change Calls _ _ _ ((w1.alloc (.cells Z18 69)).setRow w1.heap.size L) _
      have hsz : w.heap.size + 1 ≤ w1.heap.size := by have := hb1.size; simpa using this
      have bR : ((w1.alloc (.cells Z18 69)).setRow w1.heap.size L).heap[w.heap.size]? = some (.cells (storyV (.slice none 0 0) (0, 0, 0, 0)) 90 (0, 0)) :=
        (setRow_other _ _ _ _ (by omega)).trans ((Below.heap_alloc w1 _ _ (by omega)).trans ((hb1.block _ (by simp)).trans hz))
      have bw : Below w.heap.size w ((w1.alloc (.cells Z18 69)).setRow w1.heap.size L) := below_row ((((Below.refl _ w).alloc (Nat.le_refl _) _).trans (hb1.mono (by simp))).alloc (by omega) _) (by omega) L
      have own2 : ((w1.alloc (.cells Z18 69)).setRow w1.heap.size L).ownsRow 0 113 2 v C.length (flatC C) := by
        have o1 := (ownsRow_low own (Nat.zero_le _)).alloc (.cells Z18 69)
        refine o1.kept (row := some w1.heap.size) ⟨rfl, rfl, rfl, by simp, fun k _ hk => setRow_other _ _ k L (fun e => hk (by rw [e]))⟩ (Or.inr fun e => ?_)
        have := (own.lt _ e).2
        omega
      clear bL hz hb1 own
      generalize ((w1.alloc (.cells Z18 69)).setRow w1.heap.size L) = W2 at *
      have hFx := hF v W2 own2
      clear hF
      cases hco : course f g C with
      | inl k =>
        refine hFx.mono ?_
        intro e w3 ho
        unfold FollowOut at ho
        rw [hco] at ho
        obtain ⟨hb3, rfl⟩ := ho
        exact ⟨rfl, storyOut_bad (bw.trans (hb3.mono bw.size)) (.inr ⟨f, g, hr, .inr ⟨C, hp, hco, rfl⟩⟩)⟩
      | inr x =>
        obtain ⟨t, s'⟩ := x
        refine hFx.mono ?_
        intro e w3 ho
        unfold FollowOut at ho
        rw [hco] at ho
        obtain ⟨hb3, g1, g2, g3, gs, vs, g4, rfl, g5⟩ := ho
        have bR3 := (hb3.block _ (blk_lt bR)).trans bR
        obtain ⟨ag, cg, hgs⟩ := row_slice g5.own
        have H5 : Hid ((storyV gs (cycOf f g C t)).all (·.oneCell') = true) := by
          show _ = _
          rw [hgs]; simp [storyV, Value.oneCell']
        have HSV : Hid ((Tryz.prog.info? 90).map (·.size) = some (storyV gs (cycOf f g C t)).size) := infoS
        have HSZ : Hid ((storyV (.slice none 0 0) (0, 0, 0, 0)).size = (storyV gs (cycOf f g C t)).size) := rfl
        have HO : Hid (∀ w', Below w.heap.size w w' → Rows2 w' 0 w.heap.size f g C vs gs → StoryOut rule text w (.returned (.agg (storyV gs (cycOf f g C t)))) w') := by
          intro w' hb hr2
          refine ⟨hb, ?_⟩
          rw [hr, hp]
          simp only [hco]
          exact ⟨g1, g2, g3, gs, vs, g4, rfl, hr2⟩
        obtain ⟨V, hV⟩ : ∃ V, storyV gs (cycOf f g C t) = V := ⟨_, rfl⟩
        rw [hV] at H5 HSV HSZ HO ⊢
        clear hV hgs hco hr hp hFx
        go_wp2_with (refine wpList_store_row rfl 90 (Operand.tmp 4) (Operand.tmp 15) rfl w.heap.size V rfl rfl 90 (storyV (.slice none 0 0) (0, 0, 0, 0)) bR3 HSV.out HSZ.out H5.out ?_)
        have r4 := setRow_heap w3 w.heap.size (storyV (.slice none 0 0) (0, 0, 0, 0)) V 90 (0, 0) bR3
        have b4 : Below w.heap.size w (w3.setRow w.heap.size V) := below_row (bw.trans (hb3.mono bw.size)) (Nat.le_refl _) V
        exact bodyPost_ret (v := .agg V) (results_cell_row Tryz.results51 _ _ w.heap.size 90 V (0, 0) _ rfl r4 Tryz.underlying90 rfl HSV.out) rfl (HO.out _ b4 (g5.setRow bw.size bR3 V))

end Go.Proofs.YtiohpcnnpmnjhaaGreatDoor

namespace Go.Proofs.YtiohpcnnpmnjhaaGreatDoor
set_option linter.unusedVariables false
open Go.RowKit

set_option maxHeartbeats 400000 in
theorem catch_idle (p q : Addr) (w : World) :
    CallsD Tryz.prog 65 #[.pointer (some p), .pointer (some q)] .returning w fun e u' w' => e = .returned (.tuple #[]) ∧ u' = .returning ∧ w' = w := by
  have hnil : ∀ w : World, (binOp BinOp.eql 20 .nilIface .nilIface).run Tryz.prog w = .ok (.bool true) w := fun _ => by kernel_rfl
  refine callsD_of_wpS Tryz.func65 rfl fun c₀ cs hu => ?_
  apply wpS_seq
  apply wpS_region
  simp [wpOpsS, go_sem, recoverD, hu, Tryz.ntmps65, Exit.thenS]
  refine wpS_of_wp ?_
  go_wp2
  cases c₀
  simp_all [bodyPostS, results, Tryz.results65]

theorem tmps11_lit (x y : Value) : #[x, y] ++ Array.replicate (15 - #[x, y].size) undef = #[x, y, undef, undef, undef, undef, undef, undef, undef, undef, undef, undef, undef, undef, undef] := rfl

set_option maxHeartbeats 400000 in
/-- The deferred closure of a frame that gives up: the two named results are laid. -/
theorem catch_refusal (b : Nat) (k i x y : Int) (w : World) (hb : b + 1 < w.heap.size) (hc : w.cell? ⟨b, 0, none⟩ = some (.int .i64 x)) (hz : w.frozen? ⟨b, 0, none⟩ = false) (hc' : w.cell? ⟨b + 1, 0, none⟩ = some (.int .i64 y)) (hz' : w.frozen? ⟨b + 1, 0, none⟩ = false) :
    CallsD Tryz.prog 65 #[.pointer (some ⟨b, 0, none⟩), .pointer (some ⟨b + 1, 0, none⟩)] (.panicking (refusal k i)) w fun e u' w' =>
      e = .returned (.tuple #[]) ∧ u' = .panicking [{ v := .iface 111 (.agg #[.int .i64 k, .int .i64 i]), recovered := true }] ∧ w'.cell? ⟨b, 0, none⟩ = some (.int .i64 k) ∧ w'.cell? ⟨b + 1, 0, none⟩ = some (.int .i64 i) ∧ Below b w w' := by
  have hne : ∀ (v : Value) (w : World), (binOp BinOp.eql 20 (.iface 111 v) .nilIface).run Tryz.prog w = .ok (.bool false) w := fun _ _ => by kernel_rfl
  have hta : ∀ (v : Value) (w : World), (Instr.typeAssert (.iface 111 v) 20 111 true).run Tryz.prog w = .ok (.tuple #[v, .bool true]) w := fun _ _ => by kernel_rfl
  have hb0 : b < w.heap.size := by omega
  have hb1 : (b == w.heap.size) = false := by simp; omega
  have hb2 : (b + 1 == w.heap.size) = false := by simp; omega
  refine callsD_of_wpS Tryz.func65 rfl fun c₀ cs hu => ?_
  rw [Tryz.ntmps65, tmps11_lit]
  apply wpS_seq
  apply wpS_region
  simp [wpOpsS, go_sem, recoverD, hu, Exit.thenS, refusal]
  refine wpS_of_wp ?_
  go_wp2
  go_region
  have hw1 : (w.setCell ⟨b, 0, none⟩ (.int .i64 k)).cell? ⟨b + 1, 0, none⟩ = some (.int .i64 y) := by rw [World.cell?_setCell_other _ _ _ _ (by simp)]; exact hc'
  have e0 : ((w.setCell ⟨b, 0, none⟩ (.int .i64 k)).setCell ⟨b + 1, 0, none⟩ (.int .i64 i)).cell? ⟨b, 0, none⟩ = some (.int .i64 k) := by
    rw [World.cell?_setCell_other _ _ _ _ (by simp)]; exact World.cell?_setCell_same _ _ _ hc
  have e1 : ((w.setCell ⟨b, 0, none⟩ (.int .i64 k)).setCell ⟨b + 1, 0, none⟩ (.int .i64 i)).cell? ⟨b + 1, 0, none⟩ = some (.int .i64 i) :=
    World.cell?_setCell_same _ _ _ hw1
  refine ⟨rfl, _, rfl, .tuple #[], by simp [results, Tryz.results65], rfl, rfl, ?_, ?_, ?_⟩
  · rw [World.cell?_drew, World.cell?_alloc_past _ _ _ (by simp [World.setCell]; omega)]; exact e0
  · rw [World.cell?_drew, World.cell?_alloc_past _ _ _ (by simp [World.setCell]; omega)]; exact e1
  · exact ((((Below.refl b w).setCell (p := ⟨b, 0, none⟩) (Nat.le_refl b) _).setCell (p := ⟨b + 1, 0, none⟩) (Nat.le_succ b) _).alloc (by simp [World.setCell]; omega) _).drew

/-- What the catcher's two boxes hold while the work goes on. -/
def Tops (b : Nat) (w : World) : Prop := w.heap[b]? = some (.cells #[.int .i64 0] 22 (0, 0)) ∧ w.heap[b + 1]? = some (.cells #[.int .i64 0] 3 (0, 0))

theorem topc {w : World} {b : Nat} {v : Value} {t : TypeId} (h : w.heap[b]? = some (.cells #[v] t (0, 0))) : w.cell? ⟨b, 0, none⟩ = some v := by simp [World.cell?, h]
theorem topz {w : World} {b : Nat} {v : Value} {t : TypeId} (h : w.heap[b]? = some (.cells #[v] t (0, 0))) : w.frozen? ⟨b, 0, none⟩ = false := by simp [World.frozen?, h]

set_option maxHeartbeats 800000 in
/-- Any work, caught: what became of it, or the refusal's two numbers. -/
theorem attempt_gen (f : FuncId) (caps : Array Value) (w : World) (he : ∀ args w, (callFunc f args).run Tryz.prog w = .ok (.enter f args) w) (R : Option (Int × Int) → World → Prop)
    (h : Calls Tryz.prog f caps ((w.alloc (.cells #[.int .i64 0] 22)).alloc (.cells #[.int .i64 0] 3)) fun e w' => Tops w.heap.size w' ∧ ((e = .returned (.tuple #[]) ∧ R none w') ∨ ∃ k i, e = .panicked (refusal k i) ∧ R (some (k, i)) w')) :
    Calls Tryz.prog 38 #[.func (.func f) #[] caps] w fun e w' => ∃ r, e = .returned (.tuple #[.int .i64 (r.getD (0, 0)).1, .int .i64 (r.getD (0, 0)).2]) ∧ ∃ w1, R r w1 ∧ Below w.heap.size w1 w' := by
  have hmf : ∀ (fn : Fn) (first cap : Array Value) (w : World), (Instr.makeFunc fn first cap).run Tryz.prog w = .ok (.func fn first cap) w := fun _ _ _ _ => rfl
  go_enter_defers Tryz.func38, Tryz.ntmps38
  go_wp2
  refine h.mono ?_
  rintro e w' ⟨⟨t0, t1⟩, ⟨rfl, hR⟩ | ⟨k, i, rfl, hR⟩⟩
  · have f0 := topc t0
    have f1 := topc t1
    have f2 := topz t0
    have f3 := topz t1
    go_wp2
    refine leaves_cons (f := 65) (args := #[.pointer (some ⟨w.heap.size, 0, none⟩), .pointer (some ⟨w.heap.size + 1, 0, none⟩)]) (by simp) (by simp [go_sem]) ?_
    refine (catch_idle _ _ _).mono ?_
    rintro e u' w'' ⟨rfl, rfl, rfl⟩
    have hw1 : (w'.setCell ⟨w.heap.size, 0, none⟩ (.int .i64 0)).cell? ⟨w.heap.size + 1, 0, none⟩ = some (.int .i64 0) := by rw [World.cell?_setCell_other _ _ _ _ (by simp)]; exact f1
    have e0 : ((w'.setCell ⟨w.heap.size, 0, none⟩ (.int .i64 0)).setCell ⟨w.heap.size + 1, 0, none⟩ (.int .i64 0)).cell? ⟨w.heap.size, 0, none⟩ = some (.int .i64 0) := by
      rw [World.cell?_setCell_other _ _ _ _ (by simp)]; exact World.cell?_setCell_same _ _ _ f0
    have e1 : ((w'.setCell ⟨w.heap.size, 0, none⟩ (.int .i64 0)).setCell ⟨w.heap.size + 1, 0, none⟩ (.int .i64 0)).cell? ⟨w.heap.size + 1, 0, none⟩ = some (.int .i64 0) :=
      World.cell?_setCell_same _ _ _ hw1
    have hfin : Below w.heap.size w' ((w'.setCell ⟨w.heap.size, 0, none⟩ (.int .i64 0)).setCell ⟨w.heap.size + 1, 0, none⟩ (.int .i64 0)) :=
      ((Below.refl _ _).setCell (p := ⟨w.heap.size, 0, none⟩) (Nat.le_refl _) _).setCell (p := ⟨w.heap.size + 1, 0, none⟩) (Nat.le_succ _) _
    simp [Leaves, settle, results, Tryz.results38, go_sem, e0, e1]
    exact ⟨none, by simp, w', hR, hfin⟩
  · have f0 := topc t0
    have f1 := topc t1
    have f2 := topz t0
    have f3 := topz t1
    have f4 : w.heap.size + 1 < w'.heap.size := (Array.getElem?_eq_some_iff.1 t1).1
    go_wp2
    refine leaves_cons (f := 65) (args := #[.pointer (some ⟨w.heap.size, 0, none⟩), .pointer (some ⟨w.heap.size + 1, 0, none⟩)]) (by simp) (by simp [go_sem]) ?_
    refine (catch_refusal w.heap.size k i 0 0 _ f4 f0 f2 f1 f3).mono ?_
    rintro e u' w'' ⟨rfl, rfl, g0, g1, gb⟩
    simp [Leaves, settle, results, Tryz.results38, go_sem, g0, g1]
    exact ⟨some (k, i), by simp, w', hR, gb⟩

end Go.Proofs.YtiohpcnnpmnjhaaGreatDoor

namespace Go.Proofs.YtiohpcnnpmnjhaaGreatDoor
open Go.RowKit Go.Shelf
set_option linter.unusedVariables false

/-- Orbit's answer: the cycle, the error, its place. -/
def orbitA (rule text : ByteArray) : (Int × Int × Int × Int) × Int × Int := match ruleR rule with
  | .inl (k, i) => ((0, 0, 0, 0), k, (i : Int))
  | .inr (f, g) => match patR text with
    | .inl (k, i) => ((0, 0, 0, 0), k, (i : Int))
    | .inr C => match course f g C with
      | .inl k => ((0, 0, 0, 0), k, 0)
      | .inr (t, _) => (cycOf f g C t, 0, 0)
def cycC (c : Int × Int × Int × Int) : Array Value := #[.int .i64 c.1, .int .i64 c.2.1, .int .i64 c.2.2.1, .int .i64 c.2.2.2]
/-- What Orbit's work leaves. -/
def OrbR (rule text : ByteArray) (bc : Nat) (w : World) (r : Option (Int × Int)) (w' : World) : Prop :=
  w.grownBy w' (some bc) ∧ r.getD (0, 0) = (orbitA rule text).2 ∧ w'.heap[bc]? = some (.cells (cycC (orbitA rule text).1) 37 (0, 0))

theorem results_cell_row2 {fn : Func} {p u v : Tmp} {ty : TypeId} (h : fn.results = #[.cell p ty, .tmp u, .tmp v]) (P : Program) (tmps : Array Value) (w : World) (g : Nat) (cs : Array Value)
    (hp : tmps.getD p undef = .pointer (some ⟨g, 0, none⟩)) (hl : (loadVar ty ⟨g, 0, none⟩).run P w = .ok (.agg cs) w) :
    (results fn tmps).run P w = .ok (.tuple #[.agg cs, tmps.getD u undef, tmps.getD v undef]) w := by
  have hp' : tmps[p]?.getD undef = .pointer (some ⟨g, 0, none⟩) := by simpa using hp
  simp [results, h, hp', asAddr, hl]
theorem infoCyc : (Tryz.prog.info? 37).map (·.size) = some 4 := by kernel_rfl
theorem grown_belowN {W W' : World} {n b : Nat} (h : W.grownBy W' (some b)) (hn : n ≤ W.heap.size) (hb : n ≤ b) : Below n W W' := ⟨h.os, h.tape, h.output, h.size, fun k hk => h.block k (by omega) (fun e => by have := Option.some.inj e; omega)⟩
theorem grown_any {W W' : World} {b : Nat} (h : Below W.heap.size W W') : W.grownBy W' (some b) := ⟨h.os, h.tape, h.output, h.size, fun k hk _ => h.block k hk⟩

set_option maxRecDepth 100000 in
set_option maxHeartbeats 1600000 in
theorem orbitWork_any (br bt bc : Nat) (rule text : ByteArray) (w : World) (h1 : rule.size ≤ maxLen) (h2 : text.size ≤ maxLen) (hr0 : w.heap[br]? = some (.cells #[.string rule] 9 (0, 0))) (ht0 : w.heap[bt]? = some (.cells #[.string text] 9 (0, 0))) (hc0 : w.heap[bc]? = some (.cells (cycC (0, 0, 0, 0)) 37 (0, 0))) :
    Calls Tryz.prog 50 #[.pointer (some ⟨br, 0, none⟩), .pointer (some ⟨bt, 0, none⟩), .pointer (some ⟨bc, 0, none⟩)] w fun e w' => ((e = .returned (.tuple #[]) ∧ OrbR rule text bc w none w') ∨ ∃ k i, e = .panicked (refusal k i) ∧ OrbR rule text bc w (some (k, i)) w') := by
  have hS := readStory_any rule text w h1 h2
  have hfd : ∀ (gs a b c d : Value) (w : World), (Instr.field 90 (.agg #[gs, a, b, c, d]) 1).run Tryz.prog w = .ok (.agg #[a, b, c, d]) w := fun _ _ _ _ _ _ => by kernel_rfl
  have q0 := topc hr0
  have q1 := topc ht0
  have bad : ∀ (k i : Int) (w' : World), Below w.heap.size w w' → orbitA rule text = ((0, 0, 0, 0), k, i) → OrbR rule text bc w (some (k, i)) w' := fun k i w' hb ho =>
    ⟨grown_any hb, by rw [ho]; rfl, by rw [ho]; exact (hb.block _ (blk_lt hc0)).trans hc0⟩
  have HB : Hid (∀ (k i : Int) (w' : World), Below w.heap.size w w' → orbitA rule text = ((0, 0, 0, 0), k, i) → OrbR rule text bc w (some (k, i)) w') := bad
  clear bad
  cases hr : ruleR rule with
  | inl x =>
    obtain ⟨k, i⟩ := x
    go_enter Tryz.func50, Tryz.ntmps50
    go_wp2_with (go_at_call 51; refine hS.mono ?_; intro e w1 ho; unfold StoryOut at ho; rw [hr] at ho; obtain ⟨hb, he⟩ := ho; simp only at he; subst he)
    exact ⟨rfl, .inr ⟨k, i, rfl, HB.out _ _ _ hb (by unfold orbitA; rw [hr])⟩⟩
  | inr x =>
    obtain ⟨f, g⟩ := x
    cases hp : patR text with
    | inl x =>
      obtain ⟨k, i⟩ := x
      go_enter Tryz.func50, Tryz.ntmps50
      go_wp2_with (go_at_call 51; refine hS.mono ?_; intro e w1 ho; unfold StoryOut at ho; rw [hr] at ho; simp only [hp] at ho; obtain ⟨hb, he⟩ := ho; subst he)
      exact ⟨rfl, .inr ⟨k, i, rfl, HB.out _ _ _ hb (by unfold orbitA; rw [hr]; simp only [hp])⟩⟩
    | inr C =>
      cases hco : course f g C with
      | inl k =>
        go_enter Tryz.func50, Tryz.ntmps50
        go_wp2_with (go_at_call 51; refine hS.mono ?_; intro e w1 ho; unfold StoryOut at ho; rw [hr] at ho; simp only [hp, hco] at ho; obtain ⟨hb, he⟩ := ho; subst he)
        exact ⟨rfl, .inr ⟨k, 0, rfl, HB.out _ _ _ hb (by unfold orbitA; rw [hr]; simp only [hp, hco])⟩⟩
      | inr x =>
        obtain ⟨t, s'⟩ := x
        have hA : orbitA rule text = (cycOf f g C t, 0, 0) := by unfold orbitA; rw [hr]; simp only [hp, hco]
        have HA : Hid (orbitA rule text = (cycOf f g C t, 0, 0)) := hA
        obtain ⟨⟨y1, y2, y3, y4⟩, hcy⟩ : ∃ cy, cycOf f g C t = cy := ⟨_, rfl⟩
        rw [hcy] at HA
        clear hA
        go_enter Tryz.func50, Tryz.ntmps50
        go_wp2_with (go_at_call 51; refine hS.mono ?_; intro e w1 ho; unfold StoryOut at ho; rw [hr] at ho; simp only [hp, hco] at ho; obtain ⟨hb, g1, g2, g3, gs, vs, g4, he, g5⟩ := ho; rw [hcy] at he; unfold storyV at he; simp only at he; subst he
                     have c1 := (hb.block _ (blk_lt hc0)).trans hc0
                     have m0 := cell_of c1 0; have m1 := cell_of c1 1; have m2 := cell_of c1 2; have m3 := cell_of c1 3
                     have z0 := frz_of c1 0; have z1 := frz_of c1 1; have z2 := frz_of c1 2; have z3 := frz_of c1 3
                     simp only [cycC] at m0 m1 m2 m3)
        go_end0
        have c5 := blk_put (j := 3) (blk_put (j := 2) (blk_put (j := 1) (blk_put (j := 0) c1 (.int .i64 y1)) (.int .i64 y2)) (.int .i64 y3)) (.int .i64 y4)
        have gr : w.grownBy ((((w1.setCell ⟨bc, 0, none⟩ (.int .i64 y1)).setCell ⟨bc, 1, none⟩ (.int .i64 y2)).setCell ⟨bc, 2, none⟩ (.int .i64 y3)).setCell ⟨bc, 3, none⟩ (.int .i64 y4)) (some bc) :=
          ((((grown_any hb).trans (grown_set _ bc 0 _)).trans (grown_set _ bc 1 _)).trans (grown_set _ bc 2 _)).trans (grown_set _ bc 3 _)
        exact .inl ⟨rfl, gr, by rw [HA.out]; rfl, by rw [HA.out]; exact c5⟩

set_option maxRecDepth 100000 in
set_option maxHeartbeats 1600000 in
/-- Orbit, whole. -/
theorem orbit_any (rule text : ByteArray) (w : World) (h1 : rule.size ≤ maxLen) (h2 : text.size ≤ maxLen) :
    Calls Tryz.prog 20 #[.string rule, .string text] w fun e w' => e = .returned (.tuple #[.agg (cycC (orbitA rule text).1), .int .i64 (orbitA rule text).2.1, .int .i64 (orbitA rule text).2.2]) ∧ Below w.heap.size w w' := by
  have hmf : ∀ (fn : Fn) (first cap : Array Value) (w : World), (Instr.makeFunc fn first cap).run Tryz.prog w = .ok (.func fn first cap) w := fun _ _ _ _ => rfl
  obtain ⟨w4, hw4⟩ : ∃ w4, (((w.alloc (.cells #[.string rule] 9)).alloc (.cells #[.string text] 9)).alloc (.cells #[.int .i64 0, .int .i64 0, .int .i64 0, .int .i64 0] 37)).alloc (.cells #[.int .i64 0, .int .i64 0, .int .i64 0, .int .i64 0] 37) = w4 := ⟨_, rfl⟩
  have s4 : w4.heap.size = w.heap.size + 4 := by rw [← hw4]; simp
  have b4 : Below w.heap.size w w4 := by rw [← hw4]; exact ((((Below.refl _ w).alloc (Nat.le_refl _) _).alloc (by simp) _).alloc (by simp; omega) _).alloc (by simp; omega) _
  have t0 : w4.heap[w.heap.size]? = some (.cells #[.string rule] 9 (0, 0)) := by rw [← hw4]; exact blk_old (blk_old (blk_old (blk_new w _) _) _) _
  have t1 : w4.heap[w.heap.size + 1]? = some (.cells #[.string text] 9 (0, 0)) := by
    have := blk_old (blk_old (blk_new (w.alloc (.cells #[.string rule] 9)) (.cells #[.string text] 9)) (.cells #[.int .i64 0, .int .i64 0, .int .i64 0, .int .i64 0] 37)) (.cells #[.int .i64 0, .int .i64 0, .int .i64 0, .int .i64 0] 37)
    rw [← hw4]; simpa using this
  have t2 : w4.heap[w.heap.size + 2]? = some (.cells (cycC (0, 0, 0, 0)) 37 (0, 0)) := by
    have := blk_old (blk_new ((w.alloc (.cells #[.string rule] 9)).alloc (.cells #[.string text] 9)) (.cells #[.int .i64 0, .int .i64 0, .int .i64 0, .int .i64 0] 37)) (.cells #[.int .i64 0, .int .i64 0, .int .i64 0, .int .i64 0] 37)
    simp only [World.size_alloc, Nat.add_assoc, Nat.reduceAdd] at this; rw [← hw4]; exact this
  have t3 : w4.heap[w.heap.size + 3]? = some (.cells (cycC (0, 0, 0, 0)) 37 (0, 0)) := by
    have := blk_new (((w.alloc (.cells #[.string rule] 9)).alloc (.cells #[.string text] 9)).alloc (.cells #[.int .i64 0, .int .i64 0, .int .i64 0, .int .i64 0] 37)) (.cells #[.int .i64 0, .int .i64 0, .int .i64 0, .int .i64 0] 37)
    simp only [World.size_alloc, Nat.add_assoc, Nat.reduceAdd] at this; rw [← hw4]; exact this
  obtain ⟨w6, hw6⟩ : ∃ w6, (w4.alloc (.cells #[.int .i64 0] 22)).alloc (.cells #[.int .i64 0] 3) = w6 := ⟨_, rfl⟩
  have s6 : w6.heap.size = w4.heap.size + 2 := by rw [← hw6]; simp
  have b6 : Below w4.heap.size w4 w6 := by rw [← hw6]; exact ((Below.refl _ _).alloc (Nat.le_refl _) _).alloc (by simp) _
  have u0 : w6.heap[w4.heap.size]? = some (.cells #[.int .i64 0] 22 (0, 0)) := by rw [← hw6]; exact blk_old (blk_new _ _) _
  have u1 : w6.heap[w4.heap.size + 1]? = some (.cells #[.int .i64 0] 3 (0, 0)) := by
    have := blk_new (w4.alloc (.cells #[.int .i64 0] 22)) (.cells #[.int .i64 0] 3)
    rw [← hw6]; simpa using this
  have hW := orbitWork_any w.heap.size (w.heap.size + 1) (w.heap.size + 3) rule text w6 h1 h2 ((b6.block _ (blk_lt t0)).trans t0) ((b6.block _ (blk_lt t1)).trans t1) ((b6.block _ (blk_lt t3)).trans t3)
  have hA := attempt_gen 50 #[.pointer (some ⟨w.heap.size, 0, none⟩), .pointer (some ⟨w.heap.size + 1, 0, none⟩), .pointer (some ⟨w.heap.size + 3, 0, none⟩)] w4 (enters_of Tryz.func50 (by kernel_rfl) rfl)
    (fun r w' => OrbR rule text (w.heap.size + 3) w6 r w')
    (by
      rw [hw6]
      refine hW.mono fun e w' ho => ⟨?_, ho⟩
      have hg : w6.grownBy w' (some (w.heap.size + 3)) := by
        rcases ho with ⟨_, h, _⟩ | ⟨_, _, _, h, _⟩ <;> exact h
      exact ⟨(hg.block _ (blk_lt u0) (fun e => by have := Option.some.inj e; omega)).trans u0, (hg.block _ (blk_lt u1) (fun e => by have := Option.some.inj e; omega)).trans u1⟩)
  clear hW u0 u1 t0 t1 t3
  obtain ⟨⟨⟨y1, y2, y3, y4⟩, k, i⟩, hO⟩ : ∃ o, orbitA rule text = o := ⟨_, rfl⟩
  have hlt : w.heap.size + 3 < w4.heap.size := by omega
  have h64 : w4.heap.size ≤ w6.heap.size := by omega
  have R0 : Hid (∀ r w8 w7, OrbR rule text (w.heap.size + 3) w6 r w8 → Below w4.heap.size w8 w7 → r.getD (0, 0) = (k, i) ∧ w7.heap[w.heap.size + 1 + 1 + 1]? = some (.cells (cycC (y1, y2, y3, y4)) 37 (0, 0)) ∧ w7.heap[w.heap.size + 1 + 1]? = some (.cells (cycC (0, 0, 0, 0)) 37 (0, 0)) ∧ Below w.heap.size w w7) := by
    rintro r w8 w7 ⟨hg8, hr8, hc8⟩ hb7
    rw [hO] at hr8 hc8
    refine ⟨hr8, (hb7.block _ hlt).trans hc8, (hb7.block _ (by omega)).trans ((hg8.block _ (by omega) (fun e => by have := Option.some.inj e; omega)).trans ((b6.block _ (by omega)).trans t2)), ?_⟩
    exact b4.trans ((b6.mono (by omega)).trans ((grown_belowN hg8 (by omega) (by omega)).trans (hb7.mono (by omega))))
  rw [hO]
  clear hO b4 b6 s4 s6 t2 hlt h64 h1 h2
  subst hw4
  go_enter Tryz.func20, Tryz.ntmps20
  go_wp2_with (go_at_call 38; refine hA.mono ?_; rintro e w7 ⟨r, rfl, w8, hR8, hb7⟩; obtain ⟨hr, c1, d1, hB⟩ := R0.out _ _ _ hR8 hb7; rw [hr]; clear hr hR8 hb7
               have m0 := cell_of c1 0; have m1 := cell_of c1 1; have m2 := cell_of c1 2; have m3 := cell_of c1 3
               have n0 := cell_of d1 0; have n1 := cell_of d1 1; have n2 := cell_of d1 2; have n3 := cell_of d1 3
               have z0 := frz_of d1 0; have z1 := frz_of d1 1; have z2 := frz_of d1 2; have z3 := frz_of d1 3
               simp only [cycC] at m0 m1 m2 m3 n0 n1 n2 n3)
  have d5 := blk_put (j := 3) (blk_put (j := 2) (blk_put (j := 1) (blk_put (j := 0) d1 (.int .i64 y1)) (.int .i64 y2)) (.int .i64 y3)) (.int .i64 y4)
  exact bodyPost_ret (v := .tuple #[.agg (cycC (y1, y2, y3, y4)), .int .i64 k, .int .i64 i]) (results_cell_row2 Tryz.results20 _ _ _ (w.heap.size + 1 + 1) (cycC (y1, y2, y3, y4)) rfl (run_loadVar_row _ (w.heap.size + 1 + 1) 37 37 (cycC (y1, y2, y3, y4)) (0, 0) _ d5 Tryz.underlying37 rfl infoCyc)) rfl ⟨rfl, ((((hB.setCell (by simp; omega) _).setCell (by simp; omega) _).setCell (by simp; omega) _).setCell (by simp; omega) _)⟩

end Go.Proofs.YtiohpcnnpmnjhaaGreatDoor
