import Derived.Test.YtiohpcnnpmnjhaaRuleRef3
import Derived.Test.YtiohpcnnpmnjhaaRefCells2
import Derived.Test.YtiohpcnnpmnjhaaRefCourse
import Derived.Test.YtiohpcnnpmnjhaaOrbitFace
namespace Go.Proofs.Ytiohpcnnpmnjhaa
open Go.RowKit Go.Shelf
set_option linter.unusedVariables false

theorem ruleR_bad {s : ByteArray} {k : Int} {i : Nat} (h : ruleR s = .inl (k, i)) : (k != 0) = true := by
  unfold ruleR at h
  split at h
  · cases h; rfl
  split at h
  rotate_left
  · cases h; rfl
  split at h
  rotate_left
  · cases h; rfl
  split at h
  rotate_left
  · cases h; rfl
  split at h <;> cases h
  rfl
theorem patR_bad {s : ByteArray} {k : Int} {i : Nat} (h : patR s = .inl (k, i)) : (k != 0) = true := by
  unfold patR at h
  split at h
  · cases h; rfl
  split at h
  · cases h; rfl
  split at h
  · cases h; rfl
  split at h <;> cases h
  rfl

theorem results_cell_row3 {fn : Func} {p u v x : Tmp} {ty : TypeId} (h : fn.results = #[.cell p ty, .tmp u, .tmp v, .tmp x]) (P : Program) (tmps : Array Value) (w : World) (g : Nat) (cs : Array Value)
    (hp : tmps.getD p undef = .pointer (some ⟨g, 0, none⟩)) (hl : (loadVar ty ⟨g, 0, none⟩).run P w = .ok (.agg cs) w) :
    (results fn tmps).run P w = .ok (.tuple #[.agg cs, tmps.getD u undef, tmps.getD v undef, tmps.getD x undef]) w := by
  have hp' : tmps[p]?.getD undef = .pointer (some ⟨g, 0, none⟩) := by simpa using hp
  simp [results, h, hp', asAddr, hl]
theorem results_cell_row4 {fn : Func} {p u v x : Tmp} {ty : TypeId} (h : fn.results = #[.tmp u, .cell p ty, .tmp v, .tmp x]) (P : Program) (tmps : Array Value) (w : World) (g : Nat) (cs : Array Value)
    (hp : tmps.getD p undef = .pointer (some ⟨g, 0, none⟩)) (hl : (loadVar ty ⟨g, 0, none⟩).run P w = .ok (.agg cs) w) :
    (results fn tmps).run P w = .ok (.tuple #[tmps.getD u undef, .agg cs, tmps.getD v undef, tmps.getD x undef]) w := by
  have hp' : tmps[p]?.getD undef = .pointer (some ⟨g, 0, none⟩) := by simpa using hp
  simp [results, h, hp', asAddr, hl]

/-- What the reference's given does. -/
def GivenOut (rule text : ByteArray) (w : World) (e : Ending) (w' : World) : Prop :=
  Below w.heap.size w w' ∧ match ruleR rule with
    | .inl (k, i) => e = .returned (.tuple #[.agg (twoN noD noD), .slice none 0 0, .int .i64 k, .int .i64 (i : Int)])
    | .inr (f, g) => match patR text with
      | .inl (k, i) => e = .returned (.tuple #[.agg (twoN f g), .slice none 0 0, .int .i64 k, .int .i64 (i : Int)])
      | .inr C => ∃ v, e = .returned (.tuple #[.agg (twoN f g), v, .int .i64 0, .int .i64 0]) ∧ w'.ownsRow w.heap.size 72 2 v C.length (flatC C)

theorem refPat_open {s : ByteArray} {w w' : World} {e : Ending} (h : RefPat s w e w') : ∃ a n c k i, e = .returned (.tuple #[.slice a n c, .int .i64 k, .int .i64 i]) ∧ Below w.heap.size w w' ∧
    match patR s with
    | .inl (k', i') => a = none ∧ n = 0 ∧ c = 0 ∧ k = k' ∧ i = (i' : Int)
    | .inr C => k = 0 ∧ i = 0 ∧ w'.ownsRow w.heap.size 72 2 (.slice a n c) C.length (flatC C) := by
  obtain ⟨hb, h⟩ := h
  cases hp : patR s with
  | inl x => obtain ⟨k, i⟩ := x; rw [hp] at h; exact ⟨_, _, _, k, _, h, hb, rfl, rfl, rfl, rfl, rfl⟩
  | inr C =>
    rw [hp] at h; obtain ⟨v, rfl, own⟩ := h
    obtain ⟨a, c, rfl⟩ := row_slice own
    exact ⟨a, _, c, 0, 0, rfl, hb, rfl, rfl, own⟩

theorem rowr {W : World} {B b m n : Nat} {e : TypeId} {v : Value} {xs : List Value} (h : W.ownsRow B e m v n xs) (hb : b < B) (V : Array Value) : (W.setRow b V).ownsRow B e m v n xs :=
  h.kept (row := some b) ⟨rfl, rfl, rfl, by simp, fun k _ hk => setRow_other _ _ k V (fun e => hk (by rw [e]))⟩ (Or.inr fun e => by have := (h.lt _ e).1; omega)

theorem given_after {text : ByteArray} {w w1 w2 : World} {L Z : Array Value} {e : Ending} (hlt : w.heap.size < w1.heap.size) (hb : Below w.heap.size w w1)
    (b8 : ((w1.alloc (.cells Z18 27)).setRow w1.heap.size L).heap[w1.heap.size]? = some (.cells L 27 (0, 0))) (t8 : ((w1.alloc (.cells Z18 27)).setRow w1.heap.size L).heap[w.heap.size]? = some (.cells Z 27 (0, 0)))
    (ho : RefPat text ((w1.alloc (.cells Z18 27)).setRow w1.heap.size L) e w2) : ∃ a n c k i, e = .returned (.tuple #[.slice a n c, .int .i64 k, .int .i64 i]) ∧ w2.heap[w1.heap.size]? = some (.cells L 27 (0, 0)) ∧ w2.heap[w.heap.size]? = some (.cells Z 27 (0, 0)) ∧ Below w.heap.size w w2 ∧ w1.heap.size + 1 ≤ w2.heap.size ∧
      Hid (match patR text with
       | .inl (k', i') => a = none ∧ n = 0 ∧ c = 0 ∧ k = k' ∧ i = (i' : Int)
       | .inr C => k = 0 ∧ i = 0 ∧ w2.ownsRow (w1.heap.size + 1) 72 2 (.slice a n c) C.length (flatC C)) := by
  obtain ⟨a, n, c, k, i, rfl, b2, hm⟩ := refPat_open ho
  have hsz : ((w1.alloc (.cells Z18 27)).setRow w1.heap.size L).heap.size = w1.heap.size + 1 := by simp
  rw [hsz] at b2 hm
  have hs2 := b2.size
  rw [hsz] at hs2
  exact ⟨a, n, c, k, i, rfl, (b2.block _ (by omega)).trans b8, (b2.block _ (by omega)).trans t8, (below_row (hb.alloc (by omega) _) (by omega) L).trans (b2.mono (by omega)), hs2, hm⟩

set_option maxRecDepth 100000 in
set_option maxHeartbeats 1600000 in
theorem given_any (rule text : ByteArray) (w : World) (h1 : rule.size ≤ maxLen) (h2 : text.size ≤ maxLen) :
    Calls Try.prog 17 #[.string rule, .string text] w (GivenOut rule text w) := by
  have hRu := fun w => refRule_any rule w h1
  have hRe := fun w => refRead_any text w h2
  have hz := blk_new w (.cells Z18 27)
  have ba := (Below.refl w.heap.size w).alloc (Nat.le_refl _) (.cells Z18 27)
  have hsz : (w.alloc (.cells Z18 27)).heap.size = w.heap.size + 1 := by simp
  cases hr : ruleR rule with
  | inl x =>
    obtain ⟨k, i⟩ := x
    have hk := ruleR_bad hr
    have HG : Hid (∀ w', Below w.heap.size w w' → GivenOut rule text w (.returned (.tuple #[.agg (twoN noD noD), .slice none 0 0, .int .i64 k, .int .i64 (i : Int)])) w') := fun w' hb => ⟨hb, by rw [hr]⟩
    have HL : Hid ((Try.prog.info? 27).map (·.size) = some (twoN noD noD).size) := info27
    have H1 : Hid ((twoN noD noD).all (·.oneCell') = true) := twoN_one _ _
    have R0 : Hid (∀ w1, Below (w.alloc (.cells Z18 27)).heap.size (w.alloc (.cells Z18 27)) w1 → w.heap.size < w1.heap.size ∧ Below w.heap.size w w1 ∧ w1.heap[w.heap.size]? = some (.cells (twoN noD noD) 27 (0, 0))) := by
      intro w1 hb
      have := hb.size
      exact ⟨by omega, ba.trans (hb.mono (by omega)), (hb.block _ (by omega)).trans hz⟩
    clear hz ba hsz
    obtain ⟨L, hL⟩ : ∃ L, twoN noD noD = L := ⟨_, rfl⟩
    have HZ : Hid (∀ w : World, (w.alloc (.cells Z18 27)).heap[w.heap.size]? = some (.cells L 27 (0, 0))) := fun w => by rw [← hL]; exact z18_new w
    rw [hL] at HG HL H1 R0
    have hRu' : ∀ w, Calls Try.prog 6 #[.string rule] w fun e w' => e = .returned (.tuple #[.agg L, .int .i64 k, .int .i64 (i : Int)]) ∧ Below w.heap.size w w' := fun w => (hRu w).mono fun e w' h => by
      unfold RefLaw at h; rw [hr] at h; rw [← hL]; exact ⟨h.2, h.1⟩
    clear hL hRu hr
    go_enter Try.func17, Try.ntmps17
    go_wp2_with (first
      | (go_at_call 6; refine (hRu' _).mono ?_; rintro e w1 ⟨rfl, b1⟩; obtain ⟨hlt, hb, t1⟩ := R0.out _ b1; clear b1)
      | (refine wpList_store_row rfl 27 (Operand.tmp 8) (Operand.tmp 17) rfl w1.heap.size L rfl rfl 27 L (HZ.out w1) HL.out rfl H1.out ?_; have b8 := setRow_heap (w1.alloc (.cells Z18 27)) w1.heap.size L L 27 (0, 0) (HZ.out w1); have t8 := (setRow_other (w1.alloc (.cells Z18 27)) w1.heap.size w.heap.size L (by omega)).trans ((Below.heap_alloc w1 _ _ hlt).trans t1))
      | (refine wpList_load_row rfl 27 (Operand.tmp 8) rfl w1.heap.size rfl 27 L (0, 0) _ b8 Try.underlying27 rfl HL.out ?_)
      | (refine wpList_store_row rfl 27 (Operand.tmp 4) (Operand.tmp 22) rfl w.heap.size L rfl rfl 27 L t8 HL.out rfl H1.out ?_))
    exact bodyPost_ret (v := .tuple #[.agg L, .slice none 0 0, .int .i64 k, .int .i64 (i : Int)]) (results_cell_row3 Try.results17 _ _ _ w.heap.size L rfl (run_loadVar_row _ w.heap.size 27 27 L (0, 0) _ (setRow_heap _ _ _ _ _ _ t8) Try.underlying27 rfl HL.out)) rfl
      (HG.out _ (below_row (below_row (hb.alloc (by omega) _) (by omega) L) (Nat.le_refl _) L))
  | inr x =>
    obtain ⟨f, g⟩ := x
    have HG : Hid (∀ (a : Option Addr) (n c : Nat) (k i : Int) (w1 w' : World), Below w.heap.size w w' → w.heap.size ≤ w1.heap.size → (∀ C, w'.ownsRow w1.heap.size 72 2 (.slice a n c) C.length (flatC C) → w'.ownsRow w.heap.size 72 2 (.slice a n c) C.length (flatC C)) → (match patR text with
    | .inl (k', i') => a = none ∧ n = 0 ∧ c = 0 ∧ k = k' ∧ i = (i' : Int)
    | .inr C => k = 0 ∧ i = 0 ∧ w'.ownsRow w1.heap.size 72 2 (.slice a n c) C.length (flatC C)) → GivenOut rule text w (.returned (.tuple #[.agg (twoN f g), .slice a n c, .int .i64 k, .int .i64 i])) w') := by
      intro a n c k i w1 w' hb hs hlow h
      refine ⟨hb, ?_⟩
      rw [hr]
      simp only
      cases hp : patR text with
      | inl x => obtain ⟨k', i'⟩ := x; rw [hp] at h; obtain ⟨rfl, rfl, rfl, rfl, rfl⟩ := h; rfl
      | inr C => rw [hp] at h; obtain ⟨rfl, rfl, own⟩ := h; exact ⟨_, rfl, hlow C own⟩
    have HL : Hid ((Try.prog.info? 27).map (·.size) = some (twoN f g).size) := info27
    have H1 : Hid ((twoN f g).all (·.oneCell') = true) := twoN_one f g
    have HS : Hid ((twoN noD noD).size = (twoN f g).size) := rfl
    have R0 : Hid (∀ w1, Below (w.alloc (.cells Z18 27)).heap.size (w.alloc (.cells Z18 27)) w1 → w.heap.size < w1.heap.size ∧ Below w.heap.size w w1 ∧ w1.heap[w.heap.size]? = some (.cells (twoN noD noD) 27 (0, 0))) := by
      intro w1 hb
      have := hb.size
      exact ⟨by omega, ba.trans (hb.mono (by omega)), (hb.block _ (by omega)).trans hz⟩
    clear hz ba hsz
    obtain ⟨L, hL⟩ : ∃ L, twoN f g = L := ⟨_, rfl⟩
    obtain ⟨Z, hZ⟩ : ∃ Z, twoN noD noD = Z := ⟨_, rfl⟩
    have HZ : Hid (∀ w : World, (w.alloc (.cells Z18 27)).heap[w.heap.size]? = some (.cells Z 27 (0, 0))) := fun w => by rw [← hZ]; exact z18_new w
    rw [hL] at HG HL H1 HS
    rw [hZ] at R0 HS
    have hRu' : ∀ w, Calls Try.prog 6 #[.string rule] w fun e w' => e = .returned (.tuple #[.agg L, .int .i64 0, .int .i64 0]) ∧ Below w.heap.size w w' := fun w => (hRu w).mono fun e w' h => by
      unfold RefLaw at h; rw [hr] at h; rw [← hL]; exact ⟨h.2, h.1⟩
    clear hL hZ hRu hr
    go_enter Try.func17, Try.ntmps17
    go_wp2_with (first
      | (go_at_call 6; refine (hRu' _).mono ?_; rintro e w1 ⟨rfl, b1⟩; obtain ⟨hlt, hb, t1⟩ := R0.out _ b1; clear b1)
      | (refine wpList_store_row rfl 27 (Operand.tmp 8) (Operand.tmp 17) rfl w1.heap.size L rfl rfl 27 Z (HZ.out w1) HL.out HS.out H1.out ?_; have b8 := setRow_heap (w1.alloc (.cells Z18 27)) w1.heap.size Z L 27 (0, 0) (HZ.out w1); have t8 := (setRow_other (w1.alloc (.cells Z18 27)) w1.heap.size w.heap.size L (by omega)).trans ((Below.heap_alloc w1 _ _ hlt).trans t1))
      | (go_at_call 26; refine (hRe _).mono ?_; intro e w2 ho; obtain ⟨a, n, c, k, i, rfl, b9, t9, hb2, hs2, HM⟩ := given_after hlt hb b8 t8 ho; clear ho)
      | (refine wpList_load_row rfl 27 (Operand.tmp 8) rfl w1.heap.size rfl 27 L (0, 0) _ b9 Try.underlying27 rfl HL.out ?_)
      | (refine wpList_store_row rfl 27 (Operand.tmp 4) (Operand.tmp 31) rfl w.heap.size L rfl rfl 27 Z t9 HL.out HS.out H1.out ?_))
    refine bodyPost_ret (v := .tuple #[.agg L, .slice a n c, .int .i64 k, .int .i64 i]) (results_cell_row3 Try.results17 _ _ _ w.heap.size L rfl (run_loadVar_row _ w.heap.size 27 27 L (0, 0) _ (setRow_heap _ _ _ _ _ _ t9) Try.underlying27 rfl HL.out)) rfl
      (HG.out a n c k i (w1.alloc (.cells Z18 27)) _ (below_row hb2 (Nat.le_refl _) L) (by simp; omega) (fun C own => ownsRow_low own (by simp; omega)) ?_)
    have hm := HM.out
    cases hp : patR text with
    | inl x => rw [hp] at hm; exact hm
    | inr C => rw [hp] at hm; obtain ⟨e1, e2, own⟩ := hm; exact ⟨e1, e2, by simpa using rowr own (by omega) L⟩

end Go.Proofs.Ytiohpcnnpmnjhaa

namespace Go.Proofs.Ytiohpcnnpmnjhaa
open Go.RowKit Go.Shelf
set_option linter.unusedVariables false

theorem courseF_came {f g : Nat → Bool} {C : List Cel} : ∀ (k t0 : Nat) {t s : Nat}, courseF f g C k t0 = .inr (t, s) → cameB f g C t = some s
  | 0, _, _, _, h => by simp [courseF] at h
  | k + 1, t0, t, s, h => by
    rw [courseF] at h
    split at h
    · cases h
    cases hc : cameB f g C t0 with
    | none => rw [hc] at h; exact courseF_came k (t0 + 1) h
    | some s0 => rw [hc] at h; cases h; exact hc
theorem courseF_bad {f g : Nat → Bool} {C : List Cel} : ∀ (k t0 : Nat) {e : Int}, courseF f g C k t0 = .inl e → e ≠ 0
  | 0, _, _, h => by simp [courseF] at h; omega
  | k + 1, t0, e, h => by
    rw [courseF] at h
    split at h
    · cases h; decide
    cases hc : cameB f g C t0 with
    | none => rw [hc] at h; exact courseF_bad k (t0 + 1) h
    | some s0 => rw [hc] at h; cases h
theorem course_cyc {f g : Nat → Bool} {C : List Cel} {t s : Nat} (h : course f g C = .inr (t, s)) : cycOf f g C t = ((s : Int), (t : Int) - (s : Int), (wayD (gen f g C s) (gen f g C t)).1, (wayD (gen f g C s) (gen f g C t)).2) := by
  unfold cycOf; rw [courseF_came _ _ h]
theorem infoRCyc : (Try.prog.info? 37).map (·.size) = some 4 := by kernel_rfl

/-- What the reference's Orbit does. -/
def RefOrbOut (A : (Int × Int × Int × Int) × Int × Int) (w : World) (e : Ending) (w' : World) : Prop :=
  (∃ a n c, e = .returned (.tuple #[.slice a n c, .agg (cycC A.1), .int .i64 A.2.1, .int .i64 A.2.2])) ∧ Below w.heap.size w w'

/-- The result's box behind given and the law's box. -/
theorem box_after {w w1 : World} {L Z : Array Value} (hb : Below (w.alloc (.cells #[.int .i64 0, .int .i64 0, .int .i64 0, .int .i64 0] 37)).heap.size (w.alloc (.cells #[.int .i64 0, .int .i64 0, .int .i64 0, .int .i64 0] 37)) w1) :
    ((w1.alloc (.cells Z 27)).setRow w1.heap.size L).heap[w.heap.size]? = some (.cells (cycC (0, 0, 0, 0)) 37 (0, 0)) ∧ w.heap.size + 2 ≤ ((w1.alloc (.cells Z 27)).setRow w1.heap.size L).heap.size ∧ w.heap.size < w1.heap.size ∧ Below w.heap.size w ((w1.alloc (.cells Z 27)).setRow w1.heap.size L) := by
  have h1 := hb.size
  have hsz : (w.alloc (.cells #[.int .i64 0, .int .i64 0, .int .i64 0, .int .i64 0] 37)).heap.size = w.heap.size + 1 := by simp
  have hs2 : ((w1.alloc (.cells Z 27)).setRow w1.heap.size L).heap.size = w1.heap.size + 1 := by simp
  rw [hsz] at h1
  have c0 := (hb.block _ (by omega)).trans (blk_new w (.cells #[.int .i64 0, .int .i64 0, .int .i64 0, .int .i64 0] 37))
  exact ⟨(setRow_other _ _ _ _ (by omega)).trans ((Below.heap_alloc w1 _ _ (by omega)).trans c0), by omega, by omega, below_row ((((Below.refl _ w).alloc (Nat.le_refl _) _).trans (hb.mono (by omega))).alloc (by omega) _) (by omega) L⟩

set_option maxRecDepth 100000 in
set_option maxHeartbeats 1600000 in
theorem refOrbit_bad (rule text : ByteArray) (w : World) (f' g' : Nat → Bool) (k i : Int) (hk : (k != 0) = true)
    (hG : ∀ w, Calls Try.prog 17 #[.string rule, .string text] w fun e w' => e = .returned (.tuple #[.agg (twoN f' g'), .slice none 0 0, .int .i64 k, .int .i64 i]) ∧ Below w.heap.size w w') :
    Calls Try.prog 9 #[.string rule, .string text] w (RefOrbOut ((0, 0, 0, 0), k, i) w) := by
  have HL : Hid ((Try.prog.info? 27).map (·.size) = some (twoN f' g').size) := info27
  have H1 : Hid ((twoN f' g').all (·.oneCell') = true) := twoN_one _ _
  have HS : Hid ((twoN noD noD).size = (twoN f' g').size) := rfl
  obtain ⟨L, hL⟩ : ∃ L, twoN f' g' = L := ⟨_, rfl⟩
  rw [hL] at HL H1 HS
  rw [hL] at hG
  clear hL
  go_enter Try.func9, Try.ntmps9
  go_wp2_with (first
    | (go_at_call 17; refine (hG _).mono ?_; rintro e w1 ⟨rfl, b1⟩)
    | (refine wpList_store_row rfl 27 (Operand.tmp 8) (Operand.tmp 19) rfl w1.heap.size L rfl rfl 27 (twoN noD noD) (z18_new w1) HL.out HS.out H1.out ?_; go_frame
       obtain ⟨t5, hs5, hlt, hb⟩ := box_after (L := L) (Z := Z18) b1
       clear b1
       generalize ((w1.alloc (.cells Z18 27)).setRow w1.heap.size L) = W2 at *
       have n0 := cell_of t5 0; have n1 := cell_of t5 1; have n2 := cell_of t5 2; have n3 := cell_of t5 3
       have z0 := frz_of t5 0; have z1 := frz_of t5 1; have z2 := frz_of t5 2; have z3 := frz_of t5 3
       simp only [cycC] at n0 n1 n2 n3))
  have d5 := blk_put (j := 3) (blk_put (j := 2) (blk_put (j := 1) (blk_put (j := 0) t5 (.int .i64 0)) (.int .i64 0)) (.int .i64 0)) (.int .i64 0)
  exact bodyPost_ret (v := .tuple #[.slice none 0 0, .agg (cycC (0, 0, 0, 0)), .int .i64 k, .int .i64 i]) (results_cell_row4 Try.results9 _ _ _ w.heap.size (cycC (0, 0, 0, 0)) rfl (run_loadVar_row _ w.heap.size 37 37 (cycC (0, 0, 0, 0)) (0, 0) _ d5 Try.underlying37 rfl infoRCyc)) rfl
    ⟨⟨_, _, _, rfl⟩, ((((hb.setCell (Nat.le_refl _) _).setCell (Nat.le_refl _) _).setCell (Nat.le_refl _) _).setCell (Nat.le_refl _) _)⟩

theorem law_row {w1 : World} {B m n e : Nat} {v : Value} {xs : List Value} (own : w1.ownsRow B e m v n xs) (L : Array Value) : ((w1.alloc (.cells Z18 27)).setRow w1.heap.size L).ownsRow 0 e m v n xs := by
  have o1 := (ownsRow_low own (Nat.zero_le _)).alloc (.cells Z18 27)
  refine o1.kept (row := some w1.heap.size) ⟨rfl, rfl, rfl, by simp, fun k _ hk => setRow_other _ _ k L (fun e => hk (by rw [e]))⟩ (Or.inr fun e => ?_)
  have := (own.lt _ e).2
  omega

set_option maxRecDepth 100000 in
set_option maxHeartbeats 1600000 in
theorem refOrbit_good (rule text : ByteArray) (w : World) (f g : Nat → Bool) (C : List Cel) (X Y : Int) (hf : Fine C X Y)
    (hG : ∀ w, Calls Try.prog 17 #[.string rule, .string text] w fun e w' => ∃ v, e = .returned (.tuple #[.agg (twoN f g), v, .int .i64 0, .int .i64 0]) ∧ Below w.heap.size w w' ∧ w'.ownsRow w.heap.size 72 2 v C.length (flatC C)) :
    Calls Try.prog 9 #[.string rule, .string text] w (RefOrbOut (match course f g C with | .inl k => ((0, 0, 0, 0), k, 0) | .inr (t, _) => (cycOf f g C t, 0, 0)) w) := by
  have HL : Hid ((Try.prog.info? 27).map (·.size) = some (twoN f g).size) := info27
  have H1 : Hid ((twoN f g).all (·.oneCell') = true) := twoN_one _ _
  have HS : Hid ((twoN noD noD).size = (twoN f g).size) := rfl
  have hC : ∀ v (w : World), w.ownsRow 0 72 2 v C.length (flatC C) → Calls Try.prog 18 #[.agg (twoN f g), v] w (CourseOut f g C w) := fun v w own =>
    course_any v C f g X Y w own hf.asc ⟨hf.x1, hf.x2⟩ ⟨hf.y1, hf.y2⟩ (fun c hc => by have := hf.win c hc; unfold inWin at this; omega) (by have := hf.len; omega)
  obtain ⟨y1, y2, y3, y4, k, hA, hC'⟩ : ∃ y1 y2 y3 y4 k, (match course f g C with | .inl k => ((0, 0, 0, 0), k, 0) | .inr (t, _) => (cycOf f g C t, 0, 0) : (Int × Int × Int × Int) × Int × Int) = ((y1, y2, y3, y4), k, 0) ∧
      ∀ v (w : World), w.ownsRow 0 72 2 v C.length (flatC C) → Calls Try.prog 18 #[.agg (twoN f g), v] w fun e w' => (∃ a n c, e = .returned (.tuple #[.slice a n c, .agg #[.int .i64 y1, .int .i64 y2, .int .i64 y3, .int .i64 y4], .int .i64 k])) ∧ Below w.heap.size w w' := by
    cases hco : course f g C with
    | inl k =>
      refine ⟨0, 0, 0, 0, k, rfl, fun v w own => (hC v w own).mono fun e w' h => ?_⟩
      unfold CourseOut at h; rw [hco] at h; exact ⟨⟨_, _, _, h.2⟩, h.1⟩
    | inr x =>
      obtain ⟨t, s⟩ := x
      refine ⟨(s : Int), (t : Int) - (s : Int), (wayD (gen f g C s) (gen f g C t)).1, (wayD (gen f g C s) (gen f g C t)).2, 0, by show (cycOf f g C t, (0 : Int), (0 : Int)) = _; rw [course_cyc hco], fun v w own => (hC v w own).mono fun e w' h => ?_⟩
      unfold CourseOut at h; rw [hco] at h; obtain ⟨hb, va, vs, he, hv, _⟩ := h
      obtain ⟨a, c, rfl⟩ := row_slice hv
      exact ⟨⟨_, _, _, he⟩, hb⟩
  rw [hA]
  clear hA hC
  have HC : Hid (∀ v (w : World), w.ownsRow 0 72 2 v C.length (flatC C) → Calls Try.prog 18 #[.agg (twoN f g), v] w fun e w' => (∃ a n c, e = .returned (.tuple #[.slice a n c, .agg #[.int .i64 y1, .int .i64 y2, .int .i64 y3, .int .i64 y4], .int .i64 k])) ∧ Below w.heap.size w w') := hC'
  clear hC'
  obtain ⟨L, hL⟩ : ∃ L, twoN f g = L := ⟨_, rfl⟩
  rw [hL] at HL H1 HS HC
  rw [hL] at hG
  clear hL
  go_enter Try.func9, Try.ntmps9
  go_wp2_with (first
    | (go_at_call 17; refine (hG _).mono ?_; rintro e w1 ⟨v, rfl, b1, own⟩)
    | (refine wpList_store_row rfl 27 (Operand.tmp 8) (Operand.tmp 19) rfl w1.heap.size L rfl rfl 27 (twoN noD noD) (z18_new w1) HL.out HS.out H1.out ?_; go_frame
       have b8 := setRow_heap (w1.alloc (.cells Z18 27)) w1.heap.size (twoN noD noD) L 27 (0, 0) (z18_new w1)
       have own2 := law_row own L
       obtain ⟨t5, hs5, hlt, hb⟩ := box_after (L := L) (Z := Z18) b1
       clear b1 own
       generalize ((w1.alloc (.cells Z18 27)).setRow w1.heap.size L) = W2 at *)
    | (refine wpList_load_row rfl 27 (Operand.tmp 8) rfl w1.heap.size rfl 27 L (0, 0) _ b8 Try.underlying27 rfl HL.out ?_)
    | (go_at_call 18; refine (HC.out _ _ own2).mono ?_; rintro e w3 ⟨⟨a, n, c, rfl⟩, b3⟩
       have t6 := (b3.block _ (blk_lt t5)).trans t5
       have hb3 : Below w.heap.size w w3 := hb.trans (b3.mono hb.size)
       have t7 := blk_old t6 (.cells #[.int .i64 y1, .int .i64 y2, .int .i64 y3, .int .i64 y4] 37)
       have n0 := cell_of t7 0; have n1 := cell_of t7 1; have n2 := cell_of t7 2; have n3 := cell_of t7 3
       have z0 := frz_of t7 0; have z1 := frz_of t7 1; have z2 := frz_of t7 2; have z3 := frz_of t7 3
       simp only [cycC] at n0 n1 n2 n3))
  go_region
  all_goals
    go_wp2
    have d5 := blk_put (j := 3) (blk_put (j := 2) (blk_put (j := 1) (blk_put (j := 0) t7 (.int .i64 y1)) (.int .i64 y2)) (.int .i64 y3)) (.int .i64 y4)
    exact bodyPost_ret (v := .tuple #[.slice a n c, .agg (cycC (y1, y2, y3, y4)), .int .i64 k, .int .i64 0]) (results_cell_row4 Try.results9 _ _ _ w.heap.size (cycC (y1, y2, y3, y4)) rfl (run_loadVar_row _ w.heap.size 37 37 (cycC (y1, y2, y3, y4)) (0, 0) _ d5 Try.underlying37 rfl infoRCyc)) rfl
      ⟨⟨_, _, _, rfl⟩, (((((hb3.alloc hb3.size _).setCell (Nat.le_refl _) _).setCell (Nat.le_refl _) _).setCell (Nat.le_refl _) _).setCell (Nat.le_refl _) _).drew⟩

/-- The reference's Orbit, whole. -/
theorem refOrbit_any (rule text : ByteArray) (w : World) (h1 : rule.size ≤ maxLen) (h2 : text.size ≤ maxLen) :
    Calls Try.prog 9 #[.string rule, .string text] w (RefOrbOut (orbitA rule text) w) := by
  have hG := fun w => given_any rule text w h1 h2
  cases hr : ruleR rule with
  | inl x =>
    obtain ⟨k, i⟩ := x
    have hA : orbitA rule text = ((0, 0, 0, 0), k, (i : Int)) := by unfold orbitA; rw [hr]
    rw [hA]
    exact refOrbit_bad rule text w noD noD k i (ruleR_bad hr) fun w => (hG w).mono fun e w' h => by unfold GivenOut at h; rw [hr] at h; exact ⟨h.2, h.1⟩
  | inr x =>
    obtain ⟨f, g⟩ := x
    cases hp : patR text with
    | inl x =>
      obtain ⟨k, i⟩ := x
      have hA : orbitA rule text = ((0, 0, 0, 0), k, (i : Int)) := by unfold orbitA; rw [hr]; simp only [hp]
      rw [hA]
      exact refOrbit_bad rule text w f g k i (patR_bad hp) fun w => (hG w).mono fun e w' h => by unfold GivenOut at h; rw [hr] at h; simp only [hp] at h; exact ⟨h.2, h.1⟩
    | inr C =>
      obtain ⟨X, Y, hf⟩ := patR_fine hp
      have hA : orbitA rule text = (match course f g C with | .inl k => ((0, 0, 0, 0), k, 0) | .inr (t, _) => (cycOf f g C t, 0, 0)) := by
        unfold orbitA; rw [hr]; simp only [hp]
        cases course f g C <;> rfl
      rw [hA]
      exact refOrbit_good rule text w f g C X Y hf fun w => (hG w).mono fun e w' h => by
        unfold GivenOut at h; rw [hr] at h; simp only [hp] at h; obtain ⟨hb, v, he, own⟩ := h; exact ⟨v, he, hb, own⟩

end Go.Proofs.Ytiohpcnnpmnjhaa

namespace Go.Proofs.Ytiohpcnnpmnjhaa
open Go.RowKit Go.Shelf
set_option linter.unusedVariables false

theorem eqIn_rcyc (a b c d : Int) (w : World) : (Op.equalIn 10000 37 (.agg #[.int .i64 a, .int .i64 b, .int .i64 c, .int .i64 d]) (.agg #[.int .i64 a, .int .i64 b, .int .i64 c, .int .i64 d])).run Try.prog w = .ok true w := by
  have u3 := Try.underlying3
  have a3 := Try.isAgg3
  have z3 := Try.sizeOf3
  rw [show (10000 : Nat) = 9999 + 1 from rfl, Op.equalIn]
  simp only [Sem.run_bind, run_underlying Try.underlying37, Result.andThen_ok]
  go_simp

set_option maxHeartbeats 800000 in
theorem cycle_any (a b c d : Int) (w : World) : Calls Try.prog 10 #[.agg #[.int .i64 a, .int .i64 b, .int .i64 c, .int .i64 d]] w fun e w' => e = .returned (.agg #[.int .i64 a, .int .i64 b, .int .i64 c, .int .i64 d]) ∧ Below w.heap.size w w' := by
  go_enter Try.func10, Try.ntmps10
  go_wp2
  have t1 := blk_new (w.alloc (.cells #[.int .i64 a, .int .i64 b, .int .i64 c, .int .i64 d] 33)) (.cells #[.int .i64 a, .int .i64 b, .int .i64 c, .int .i64 d] 37)
  rw [World.size_alloc] at t1
  exact bodyPost_ret (v := .agg #[.int .i64 a, .int .i64 b, .int .i64 c, .int .i64 d]) (results_cell_row Try.results10 _ _ (w.heap.size + 1) 37 #[.int .i64 a, .int .i64 b, .int .i64 c, .int .i64 d] (0, 0) _ rfl t1 Try.underlying37 rfl infoRCyc) rfl ⟨rfl, ((Below.refl _ _).alloc (Nat.le_refl _) _).alloc (by simp) _⟩

theorem box_kept {w w1 w2 : World} {V : Array Value} {t : TypeId} (b1 : Below w.heap.size w w1) (b2 : Below (w1.alloc (.cells V t)).heap.size (w1.alloc (.cells V t)) w2) (o : Obj) :
    (w2.alloc o).heap[w1.heap.size]? = some (.cells V t (0, 0)) ∧ Below w.heap.size w w2 := by
  have hsz : (w1.alloc (.cells V t)).heap.size = w1.heap.size + 1 := by simp
  have h1 := b1.size
  exact ⟨blk_old ((b2.block _ (by omega)).trans (blk_new w1 (.cells V t))) o, (b1.alloc b1.size _).trans (b2.mono (by omega))⟩

set_option maxRecDepth 100000 in
set_option maxHeartbeats 1600000 in
theorem orbits_walk (rule text : ByteArray) (h1 : rule.size ≤ maxLen) (h2 : text.size ≤ maxLen) (w : World) :
    Calls Try.prog 4 #[.string rule, .string text] w fun e w' => e = .returned (.bool true) ∧ Below w.heap.size w w' := by
  have hP := orbit_any rule text w h1 h2
  have hR := fun w => refOrbit_any rule text w h1 h2
  obtain ⟨⟨⟨y1, y2, y3, y4⟩, k, i⟩, hO⟩ : ∃ o, orbitA rule text = o := ⟨_, rfl⟩
  rw [hO] at hP
  simp only [hO] at hR
  clear hO h1 h2
  unfold RefOrbOut at hR
  simp only [cycC] at hP hR
  have heq := fun w => eqIn_rcyc y1 y2 y3 y4 w
  go_enter Try.func4, Try.ntmps4
  go_wp2_with (first
    | (go_at_call 8; refine hP.mono ?_; rintro e w1 ⟨rfl, b1⟩)
    | (go_at_call 9; refine (hR _).mono ?_; rintro e w2 ⟨⟨a, n, c, rfl⟩, b2⟩
       obtain ⟨t5, bw2⟩ := box_kept b1 b2 (.cells #[.int .i64 y1, .int .i64 y2, .int .i64 y3, .int .i64 y4] 37)
       have n0 := cell_of t5 0; have n1 := cell_of t5 1; have n2 := cell_of t5 2; have n3 := cell_of t5 3
       skip)
    | (go_at_call 10; refine (cycle_any y1 y2 y3 y4 _).mono ?_; rintro e w3 ⟨rfl, b3⟩
       obtain ⟨t9, bw3⟩ := box_kept bw2 b3 (.cells #[.int .i64 y1, .int .i64 y2, .int .i64 y3, .int .i64 y4] 37)
       have m0 := cell_of t9 0; have m1 := cell_of t9 1; have m2 := cell_of t9 2; have m3 := cell_of t9 3
       skip)
    | (go_at_call 7; refine (num_any k _).mono ?_; rintro e w4 ⟨rfl, rfl⟩))
  exact bodyPost_ret (v := .bool true) (by simp [results, Try.results4]) rfl ⟨rfl, bw3.alloc bw3.size _⟩

end Go.Proofs.Ytiohpcnnpmnjhaa
