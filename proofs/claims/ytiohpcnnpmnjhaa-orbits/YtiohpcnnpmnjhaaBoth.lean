import Derived.Test.YtiohpcnnpmnjhaaRuleRead2
import Derived.Test.YtiohpcnnpmnjhaaRuleRef2
import Derived.Test.YtiohpcnnpmnjhaaPatternM
import Derived.Test.YtiohpcnnpmnjhaaGens
namespace Go.Proofs.Ytiohpcnnpmnjhaa
open Go.RowKit
set_option linter.unusedVariables false

theorem z18_law (w : World) : (w.alloc (.cells Z18 44)).heap[w.heap.size]? = some (.cells (twoN noD noD) 44 (0, 0)) := blk_new w _
/-- What readBoth leaves. -/
def BothOut (rule text : ByteArray) (w : World) (e : Ending) (w' : World) : Prop :=
  Below w.heap.size w w' ∧ match ruleR rule with
    | .inl (k, i) => e = .panicked (refusal k i)
    | .inr (f, g) => match patR text with
      | .inl (k, i) => e = .panicked (refusal k i)
      | .inr C => ∃ v, e = .returned (.tuple #[.agg (twoN f g), v]) ∧ w'.ownsRow w.heap.size 99 2 v C.length (flatC C)
theorem below_setRow {n : Nat} {w W : World} (h : Below n w W) {g : Nat} (hg : n ≤ g) (cs : Array Value) : Below n w (W.setRow g cs) :=
  h.trans ⟨rfl, rfl, rfl, by simp, fun k hk => setRow_other W g k cs (by omega)⟩

set_option maxRecDepth 100000 in
set_option maxHeartbeats 1600000 in
theorem readBoth_any (rule text : ByteArray) (w : World) (h1 : rule.size ≤ maxLen) (h2 : text.size ≤ maxLen) :
    Calls Try.prog 24 #[.string rule, .string text] w (BothOut rule text w) := by
  have hR := fun w => readRule_any rule w h1
  have hP := fun w => readPattern_any text w h2
  cases hr : ruleR rule with
  | inl x =>
    obtain ⟨k, i⟩ := x
    go_enter Try.func24, Try.ntmps24
    go_wp2_with (go_at_call 13; refine (hR _).mono ?_; intro e w1 ho; unfold LawOut at ho; rw [hr] at ho; obtain ⟨hb, he⟩ := ho; simp only at he; subst he)
    refine ⟨rfl, ?_⟩
    unfold BothOut
    rw [hr]
    exact ⟨((Below.refl _ _).alloc (Nat.le_refl _) _).trans (hb.mono (by simp)), rfl⟩
  | inr x =>
    obtain ⟨f, g⟩ := x
    have HL : Hid ((Try.prog.info? 44).map (·.size) = some (twoN f g).size) := infoL
    have H1 : Hid ((twoN f g).all (·.oneCell') = true) := twoN_one f g
    have HS : Hid ((twoN noD noD).size = (twoN f g).size) := rfl
    obtain ⟨L, hL⟩ : ∃ L, twoN f g = L := ⟨_, rfl⟩
    have HT : Hid (∀ e w', BothOut rule text w e w' ↔ Below w.heap.size w w' ∧ match patR text with
      | .inl (k, i) => e = .panicked (refusal k i)
      | .inr C => ∃ v, e = .returned (.tuple #[.agg L, v]) ∧ w'.ownsRow w.heap.size 99 2 v C.length (flatC C)) := by
      intro e w'
      unfold BothOut
      rw [hr, ← hL]
    rw [hL] at HL H1 HS
    go_enter Try.func24, Try.ntmps24
    go_wp2_with (first
      | (go_at_call 13; refine (hR _).mono ?_; intro e w1 ho; unfold LawOut at ho; rw [hr] at ho; obtain ⟨hb1, he⟩ := ho; simp only at he; rw [hL] at he; clear hr hL; subst he)
      | (refine wpList_store_row rfl 44 (Operand.tmp 6) (Operand.tmp 8) rfl w1.heap.size L rfl rfl 44 (twoN noD noD) (z18_law w1) HL.out HS.out H1.out ?_))
    go_frame
    have sz : w.heap.size < w1.heap.size := by have := hb1.size; simp at this; omega
    have bw1 : Below w.heap.size w w1 := ((Below.refl _ _).alloc (Nat.le_refl _) _).trans (hb1.mono (by simp))
    have bL := setRow_heap (w1.alloc (.cells Z18 44)) w1.heap.size (twoN noD noD) L 44 (0, 0) (z18_law w1)
    have bR : ((w1.alloc (.cells Z18 44)).setRow w1.heap.size L).heap[w.heap.size]? = some (.cells (twoN noD noD) 44 (0, 0)) :=
      (setRow_other _ _ _ _ (by omega)).trans ((Below.heap_alloc w1 _ _ sz).trans ((hb1.block _ (by simp)).trans (z18_law w)))
    have bW2 : Below w.heap.size w ((w1.alloc (.cells Z18 44)).setRow w1.heap.size L) := below_row (bw1.alloc bw1.size _) (by omega) L
    clear hb1 bw1
    change Code.wp _ _ _ _ ((w1.alloc (.cells Z18 44)).setRow w1.heap.size L)
    generalize ((w1.alloc (.cells Z18 44)).setRow w1.heap.size L) = W2 at *
    have bL' : W2.drew.heap[w1.heap.size]? = some (.cells L 44 (0, 0)) := bL
    have bR' : W2.drew.heap[w.heap.size]? = some (.cells (twoN noD noD) 44 (0, 0)) := bR
    have bW2' : Below w.heap.size w W2.drew := bW2.drew
    refine wp_region_any (by kernel_rfl) ?_
    change wpAny _ _ _ _ _ _ _ (World.drew _)
    refine wpAny_take (i := 1) (v := .string text) rfl (by kernel_rfl) (by kernel_rfl) (by kernel_rfl) (fun _ _ _ h => h) (Or.inl ⟨by rfl, fun w => by go_simp⟩) ?_
    cases hp : patR text with
    | inl x =>
      obtain ⟨k, i⟩ := x
      refine wpAny_ready (rs := [0, 2]) (by kernel_rfl) (by simp) (AllReady.cons rfl (fun K hK => ?_) (AllReady.cons rfl (fun K hK => ?_) AllReady.nil))
      · refine (if_pos (by rfl)).mpr (wp_load_row 44 (Operand.tmp 6) rfl w1.heap.size rfl 44 L (0, 0) _ bL' Try.underlying44 rfl HL.out (hK _ _ ?_))
        clear hK K
        refine wpAny_ready (rs := [2]) (by kernel_rfl) (by simp) (AllReady.cons rfl (fun K hK => ?_) AllReady.nil)
        go_simp
        refine (hP _).mono ?_
        intro e w3 ho
        unfold PatOut at ho
        rw [hp] at ho
        obtain ⟨hb3, he⟩ := ho
        simp only at he
        subst he
        exact ⟨rfl, (HT.out _ _).2 ⟨bW2'.trans (hb3.mono bW2'.size), by rw [hp]⟩⟩
      · go_simp
        refine (hP _).mono ?_
        intro e w3 ho
        unfold PatOut at ho
        rw [hp] at ho
        obtain ⟨hb3, he⟩ := ho
        simp only at he
        subst he
        exact ⟨rfl, (HT.out _ _).2 ⟨bW2'.trans (hb3.mono bW2'.size), by rw [hp]⟩⟩
    | inr C =>
      refine wpAny_ready (rs := [0, 2]) (by kernel_rfl) (by simp) (AllReady.cons rfl (fun K hK => ?_) (AllReady.cons rfl (fun K hK => ?_) AllReady.nil))
      · refine (if_pos (by rfl)).mpr (wp_load_row 44 (Operand.tmp 6) rfl w1.heap.size rfl 44 L (0, 0) _ bL' Try.underlying44 rfl HL.out (hK _ _ ?_))
        clear hK K
        refine wpAny_ready (rs := [2]) (by kernel_rfl) (by simp) (AllReady.cons rfl (fun K hK => ?_) AllReady.nil)
        go_simp
        refine (hP _).mono ?_
        intro e w3 ho
        unfold PatOut at ho
        rw [hp] at ho
        obtain ⟨hb3, he⟩ := ho
        simp only at he
        obtain ⟨v, rfl, own⟩ := he
        refine hK _ _ ?_
        clear hK K
        refine wpAny_ready (rs := [3]) (by kernel_rfl) (by simp) (AllReady.cons rfl (fun K hK => ?_) AllReady.nil)
        refine (if_pos (by rfl)).mpr (wp_store_row 44 (Operand.tmp 4) (Operand.tmp 9) rfl w.heap.size L rfl rfl 44 (twoN noD noD) ((hb3.block _ (blk_lt bR')).trans bR') HL.out HS.out H1.out (hK _ _ ?_))
        clear hK K
        refine wpAny_ready (rs := [4]) (by kernel_rfl) (by simp) (AllReady.cons rfl (fun K hK => ?_) AllReady.nil)
        go_simp
        refine hK _ _ ?_
        clear hK K
        refine wpAny_done (by kernel_rfl) ?_ _
        have r3 := setRow_heap w3 w.heap.size (twoN noD noD) L 44 (0, 0) ((hb3.block _ (blk_lt bR')).trans bR')
        have hload := run_loadVar_row (P := Try.prog) (w3.setRow w.heap.size L) w.heap.size 44 44 L (0, 0) _ r3 Try.underlying44 rfl HL.out
        have own' := (ownsRow_low own (show w.heap.size + 1 ≤ W2.drew.heap.size from blk_lt bR')).kept (w' := w3.setRow w.heap.size L) (row := some w.heap.size) ⟨rfl, rfl, rfl, by simp, fun k _ hk => setRow_other w3 w.heap.size k L (fun e => hk (by rw [e]))⟩ (Or.inr fun e => by have := ((ownsRow_low own (show w.heap.size + 1 ≤ W2.drew.heap.size from blk_lt bR')).lt _ e).1; omega)
        go_wp2
        exact bodyPost_ret (v := .tuple #[.agg L, v]) (by simp [results, Try.results24, asAddr, hload]) rfl ((HT.out _ _).2 ⟨below_row (bW2'.trans (hb3.mono bW2'.size)) (Nat.le_refl _) L, by rw [hp]; exact ⟨v, rfl, ownsRow_low own' (by omega)⟩⟩)
      · go_simp
        refine (hP _).mono ?_
        intro e w3 ho
        unfold PatOut at ho
        rw [hp] at ho
        obtain ⟨hb3, he⟩ := ho
        simp only at he
        obtain ⟨v, rfl, own⟩ := he
        refine hK _ _ ?_
        clear hK K
        refine wpAny_ready (rs := [0]) (by kernel_rfl) (by simp) (AllReady.cons rfl (fun K hK => ?_) AllReady.nil)
        refine (if_pos (by rfl)).mpr (wp_load_row 44 (Operand.tmp 6) rfl w1.heap.size rfl 44 L (0, 0) _ ((hb3.block _ (blk_lt bL')).trans bL') Try.underlying44 rfl HL.out (hK _ _ ?_))
        clear hK K
        refine wpAny_ready (rs := [3]) (by kernel_rfl) (by simp) (AllReady.cons rfl (fun K hK => ?_) AllReady.nil)
        refine (if_pos (by rfl)).mpr (wp_store_row 44 (Operand.tmp 4) (Operand.tmp 9) rfl w.heap.size L rfl rfl 44 (twoN noD noD) ((hb3.block _ (blk_lt bR')).trans bR') HL.out HS.out H1.out (hK _ _ ?_))
        clear hK K
        refine wpAny_ready (rs := [4]) (by kernel_rfl) (by simp) (AllReady.cons rfl (fun K hK => ?_) AllReady.nil)
        go_simp
        refine hK _ _ ?_
        clear hK K
        refine wpAny_done (by kernel_rfl) ?_ _
        have r3 := setRow_heap w3 w.heap.size (twoN noD noD) L 44 (0, 0) ((hb3.block _ (blk_lt bR')).trans bR')
        have hload := run_loadVar_row (P := Try.prog) (w3.setRow w.heap.size L) w.heap.size 44 44 L (0, 0) _ r3 Try.underlying44 rfl HL.out
        have own' := (ownsRow_low own (show w.heap.size + 1 ≤ W2.drew.heap.size from blk_lt bR')).kept (w' := w3.setRow w.heap.size L) (row := some w.heap.size) ⟨rfl, rfl, rfl, by simp, fun k _ hk => setRow_other w3 w.heap.size k L (fun e => hk (by rw [e]))⟩ (Or.inr fun e => by have := ((ownsRow_low own (show w.heap.size + 1 ≤ W2.drew.heap.size from blk_lt bR')).lt _ e).1; omega)
        go_wp2
        exact bodyPost_ret (v := .tuple #[.agg L, v]) (by simp [results, Try.results24, asAddr, hload]) rfl ((HT.out _ _).2 ⟨below_row (bW2'.trans (hb3.mono bW2'.size)) (Nat.le_refl _) L, by rw [hp]; exact ⟨v, rfl, ownsRow_low own' (by omega)⟩⟩)

end Go.Proofs.Ytiohpcnnpmnjhaa
