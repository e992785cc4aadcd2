import Derived.Test.YtiohpcnnpmnjhaaGreatDoorCrsM
import Derived.Test.YtiohpcnnpmnjhaaGreatDoorBotM
import Derived.Test.YtiohpcnnpmnjhaaGreatDoorAftM
namespace Go.Proofs.YtiohpcnnpmnjhaaGreatDoor
open Go.RowKit Go.Shelf
set_option linter.unusedVariables false

theorem courseF_came {f g : Nat → Bool} {C : List Cel} : ∀ (k t0 : Nat) {t s : Nat}, courseF f g C k t0 = .inr (t, s) → cameB f g C t = some s
  | 0, _, _, _, h => by simp [courseF] at h
  | k + 1, t0, t, s, h => by
    rw [courseF] at h
    split at h
    · cases h
    cases hc : cameB f g C t0 with
    | none => rw [hc] at h; exact courseF_came k (t0 + 1) h
    | some s0 => rw [hc] at h; cases h; exact hc
theorem courseF_bad {f g : Nat → Bool} {C : List Cel} : ∀ (k t0 : Nat) {e : Int}, courseF f g C k t0 = .inl e → e ≠ 0
  | 0, _, _, h => by simp [courseF] at h; omega
  | k + 1, t0, e, h => by
    rw [courseF] at h
    split at h
    · cases h; decide
    cases hc : cameB f g C t0 with
    | none => rw [hc] at h; exact courseF_bad k (t0 + 1) h
    | some s0 => rw [hc] at h; cases h
theorem course_cyc {f g : Nat → Bool} {C : List Cel} {t s : Nat} (h : course f g C = .inr (t, s)) : cycOf f g C t = ((s : Int), (t : Int) - (s : Int), (wayD (gen f g C s) (gen f g C t)).1, (wayD (gen f g C s) (gen f g C t)).2) := by
  unfold cycOf; rw [courseF_came _ _ h]
theorem infoRCyc : (Tryz.prog.info? 54).map (·.size) = some 4 := by kernel_rfl

/-- What the reference's Orbit does. -/
def RefOrbOut (A : (Int × Int × Int × Int) × Int × Int) (w : World) (e : Ending) (w' : World) : Prop :=
  (∃ a n c, e = .returned (.tuple #[.slice a n c, .agg (cycC A.1), .int .i64 A.2.1, .int .i64 A.2.2])) ∧ Below w.heap.size w w'

/-- The result's box behind given and the law's box. -/
theorem box_after {w w1 : World} {L Z : Array Value} (hb : Below (w.alloc (.cells #[.int .i64 0, .int .i64 0, .int .i64 0, .int .i64 0] 54)).heap.size (w.alloc (.cells #[.int .i64 0, .int .i64 0, .int .i64 0, .int .i64 0] 54)) w1) :
    ((w1.alloc (.cells Z 77)).setRow w1.heap.size L).heap[w.heap.size]? = some (.cells (cycC (0, 0, 0, 0)) 54 (0, 0)) ∧ w.heap.size + 2 ≤ ((w1.alloc (.cells Z 77)).setRow w1.heap.size L).heap.size ∧ w.heap.size < w1.heap.size ∧ Below w.heap.size w ((w1.alloc (.cells Z 77)).setRow w1.heap.size L) := by
  have h1 := hb.size
  have hsz : (w.alloc (.cells #[.int .i64 0, .int .i64 0, .int .i64 0, .int .i64 0] 54)).heap.size = w.heap.size + 1 := by simp
  have hs2 : ((w1.alloc (.cells Z 77)).setRow w1.heap.size L).heap.size = w1.heap.size + 1 := by simp
  rw [hsz] at h1
  have c0 := (hb.block _ (by omega)).trans (blk_new w (.cells #[.int .i64 0, .int .i64 0, .int .i64 0, .int .i64 0] 54))
  exact ⟨(setRow_other _ _ _ _ (by omega)).trans ((Below.heap_alloc w1 _ _ (by omega)).trans c0), by omega, by omega, below_row ((((Below.refl _ w).alloc (Nat.le_refl _) _).trans (hb.mono (by omega))).alloc (by omega) _) (by omega) L⟩

set_option maxRecDepth 100000 in
set_option maxHeartbeats 1600000 in
theorem refOrbit_bad (rule text : ByteArray) (w : World) (f' g' : Nat → Bool) (k i : Int) (hk : (k != 0) = true)
    (hG : ∀ w, Calls Tryz.prog 43 #[.string rule, .string text] w fun e w' => e = .returned (.tuple #[.agg (twoN f' g'), .slice none 0 0, .int .i64 k, .int .i64 i]) ∧ Below w.heap.size w w') :
    Calls Tryz.prog 27 #[.string rule, .string text] w (RefOrbOut ((0, 0, 0, 0), k, i) w) := by
  have HL : Hid ((Tryz.prog.info? 77).map (·.size) = some (twoN f' g').size) := info27
  have H1 : Hid ((twoN f' g').all (·.oneCell') = true) := twoN_one _ _
  have HS : Hid ((twoN noD noD).size = (twoN f' g').size) := rfl
  obtain ⟨L, hL⟩ : ∃ L, twoN f' g' = L := ⟨_, rfl⟩
  rw [hL] at HL H1 HS
  rw [hL] at hG
  clear hL
  go_enter Tryz.func27, Tryz.ntmps27
  go_wp2_with (first
    | (go_at_call 43; refine (hG _).mono ?_; rintro e w1 ⟨rfl, b1⟩)
    | (refine wpList_store_row rfl 77 (Operand.tmp 8) (Operand.tmp 19) rfl w1.heap.size L rfl rfl 77 (twoN noD noD) (z18_new w1) HL.out HS.out H1.out ?_; go_frame
       obtain ⟨t5, hs5, hlt, hb⟩ := box_after (L := L) (Z := Z18) b1
       clear b1
       generalize ((w1.alloc (.cells Z18 77)).setRow w1.heap.size L) = W2 at *
       have n0 := cell_of t5 0; have n1 := cell_of t5 1; have n2 := cell_of t5 2; have n3 := cell_of t5 3
       have z0 := frz_of t5 0; have z1 := frz_of t5 1; have z2 := frz_of t5 2; have z3 := frz_of t5 3
       simp only [cycC] at n0 n1 n2 n3))
  have d5 := blk_put (j := 3) (blk_put (j := 2) (blk_put (j := 1) (blk_put (j := 0) t5 (.int .i64 0)) (.int .i64 0)) (.int .i64 0)) (.int .i64 0)
  exact bodyPost_ret (v := .tuple #[.slice none 0 0, .agg (cycC (0, 0, 0, 0)), .int .i64 k, .int .i64 i]) (results_cell_row4 Tryz.results27 _ _ _ w.heap.size (cycC (0, 0, 0, 0)) rfl (run_loadVar_row _ w.heap.size 54 54 (cycC (0, 0, 0, 0)) (0, 0) _ d5 Tryz.underlying54 rfl infoRCyc)) rfl
    ⟨⟨_, _, _, rfl⟩, ((((hb.setCell (Nat.le_refl _) _).setCell (Nat.le_refl _) _).setCell (Nat.le_refl _) _).setCell (Nat.le_refl _) _)⟩

theorem law_row {w1 : World} {B m n e : Nat} {v : Value} {xs : List Value} (own : w1.ownsRow B e m v n xs) (L : Array Value) : ((w1.alloc (.cells Z18 77)).setRow w1.heap.size L).ownsRow 0 e m v n xs := by
  have o1 := (ownsRow_low own (Nat.zero_le _)).alloc (.cells Z18 77)
  refine o1.kept (row := some w1.heap.size) ⟨rfl, rfl, rfl, by simp, fun k _ hk => setRow_other _ _ k L (fun e => hk (by rw [e]))⟩ (Or.inr fun e => ?_)
  have := (own.lt _ e).2
  omega

set_option maxRecDepth 100000 in
set_option maxHeartbeats 1600000 in
theorem refOrbit_good (rule text : ByteArray) (w : World) (f g : Nat → Bool) (C : List Cel) (X Y : Int) (hf : Fine C X Y)
    (hG : ∀ w, Calls Tryz.prog 43 #[.string rule, .string text] w fun e w' => ∃ v, e = .returned (.tuple #[.agg (twoN f g), v, .int .i64 0, .int .i64 0]) ∧ Below w.heap.size w w' ∧ w'.ownsRow w.heap.size 44 2 v C.length (flatC C)) :
    Calls Tryz.prog 27 #[.string rule, .string text] w (RefOrbOut (match course f g C with | .inl k => ((0, 0, 0, 0), k, 0) | .inr (t, _) => (cycOf f g C t, 0, 0)) w) := by
  have HL : Hid ((Tryz.prog.info? 77).map (·.size) = some (twoN f g).size) := info27
  have H1 : Hid ((twoN f g).all (·.oneCell') = true) := twoN_one _ _
  have HS : Hid ((twoN noD noD).size = (twoN f g).size) := rfl
  have hC : ∀ v (w : World), w.ownsRow 0 44 2 v C.length (flatC C) → Calls Tryz.prog 45 #[.agg (twoN f g), v] w (CourseOut f g C w) := fun v w own =>
    course_any v C f g X Y w own hf.asc ⟨hf.x1, hf.x2⟩ ⟨hf.y1, hf.y2⟩ (fun c hc => by have := hf.win c hc; unfold inWin at this; omega) (by have := hf.len; omega)
  obtain ⟨y1, y2, y3, y4, k, hA, hC'⟩ : ∃ y1 y2 y3 y4 k, (match course f g C with | .inl k => ((0, 0, 0, 0), k, 0) | .inr (t, _) => (cycOf f g C t, 0, 0) : (Int × Int × Int × Int) × Int × Int) = ((y1, y2, y3, y4), k, 0) ∧
      ∀ v (w : World), w.ownsRow 0 44 2 v C.length (flatC C) → Calls Tryz.prog 45 #[.agg (twoN f g), v] w fun e w' => (∃ a n c, e = .returned (.tuple #[.slice a n c, .agg #[.int .i64 y1, .int .i64 y2, .int .i64 y3, .int .i64 y4], .int .i64 k])) ∧ Below w.heap.size w w' := by
    cases hco : course f g C with
    | inl k =>
      refine ⟨0, 0, 0, 0, k, rfl, fun v w own => (hC v w own).mono fun e w' h => ?_⟩
      unfold CourseOut at h; rw [hco] at h; exact ⟨⟨_, _, _, h.2⟩, h.1⟩
    | inr x =>
      obtain ⟨t, s⟩ := x
      refine ⟨(s : Int), (t : Int) - (s : Int), (wayD (gen f g C s) (gen f g C t)).1, (wayD (gen f g C s) (gen f g C t)).2, 0, by show (cycOf f g C t, (0 : Int), (0 : Int)) = _; rw [course_cyc hco], fun v w own => (hC v w own).mono fun e w' h => ?_⟩
      unfold CourseOut at h; rw [hco] at h; obtain ⟨hb, va, vs, he, hv, _⟩ := h
      obtain ⟨a, c, rfl⟩ := row_slice hv
      exact ⟨⟨_, _, _, he⟩, hb⟩
  rw [hA]
  clear hA hC
  have HC : Hid (∀ v (w : World), w.ownsRow 0 44 2 v C.length (flatC C) → Calls Tryz.prog 45 #[.agg (twoN f g), v] w fun e w' => (∃ a n c, e = .returned (.tuple #[.slice a n c, .agg #[.int .i64 y1, .int .i64 y2, .int .i64 y3, .int .i64 y4], .int .i64 k])) ∧ Below w.heap.size w w') := hC'
  clear hC'
  obtain ⟨L, hL⟩ : ∃ L, twoN f g = L := ⟨_, rfl⟩
  rw [hL] at HL H1 HS HC
  rw [hL] at hG
  clear hL
  go_enter Tryz.func27, Tryz.ntmps27
  go_wp2_with (first
    | (go_at_call 43; refine (hG _).mono ?_; rintro e w1 ⟨v, rfl, b1, own⟩)
    | (refine wpList_store_row rfl 77 (Operand.tmp 8) (Operand.tmp 19) rfl w1.heap.size L rfl rfl 77 (twoN noD noD) (z18_new w1) HL.out HS.out H1.out ?_; go_frame
       have b8 := setRow_heap (w1.alloc (.cells Z18 77)) w1.heap.size (twoN noD noD) L 77 (0, 0) (z18_new w1)
       have own2 := law_row own L
       obtain ⟨t5, hs5, hlt, hb⟩ := box_after (L := L) (Z := Z18) b1
       clear b1 own
       generalize ((w1.alloc (.cells Z18 77)).setRow w1.heap.size L) = W2 at *)
    | (refine wpList_load_row rfl 77 (Operand.tmp 8) rfl w1.heap.size rfl 77 L (0, 0) _ b8 Tryz.underlying77 rfl HL.out ?_)
    | (go_at_call 45; refine (HC.out _ _ own2).mono ?_; rintro e w3 ⟨⟨a, n, c, rfl⟩, b3⟩
       have t6 := (b3.block _ (blk_lt t5)).trans t5
       have hb3 : Below w.heap.size w w3 := hb.trans (b3.mono hb.size)
       have t7 := blk_old t6 (.cells #[.int .i64 y1, .int .i64 y2, .int .i64 y3, .int .i64 y4] 54)
       have n0 := cell_of t7 0; have n1 := cell_of t7 1; have n2 := cell_of t7 2; have n3 := cell_of t7 3
       have z0 := frz_of t7 0; have z1 := frz_of t7 1; have z2 := frz_of t7 2; have z3 := frz_of t7 3
       simp only [cycC] at n0 n1 n2 n3))
  go_region
  all_goals
    go_wp2
    have d5 := blk_put (j := 3) (blk_put (j := 2) (blk_put (j := 1) (blk_put (j := 0) t7 (.int .i64 y1)) (.int .i64 y2)) (.int .i64 y3)) (.int .i64 y4)
    exact bodyPost_ret (v := .tuple #[.slice a n c, .agg (cycC (y1, y2, y3, y4)), .int .i64 k, .int .i64 0]) (results_cell_row4 Tryz.results27 _ _ _ w.heap.size (cycC (y1, y2, y3, y4)) rfl (run_loadVar_row _ w.heap.size 54 54 (cycC (y1, y2, y3, y4)) (0, 0) _ d5 Tryz.underlying54 rfl infoRCyc)) rfl
      ⟨⟨_, _, _, rfl⟩, (((((hb3.alloc hb3.size _).setCell (Nat.le_refl _) _).setCell (Nat.le_refl _) _).setCell (Nat.le_refl _) _).setCell (Nat.le_refl _) _).drew⟩

/-- The reference's Orbit, whole. -/
theorem refOrbit_any (rule text : ByteArray) (w : World) (h1 : rule.size ≤ maxLen) (h2 : text.size ≤ maxLen) :
    Calls Tryz.prog 27 #[.string rule, .string text] w (RefOrbOut (orbitA rule text) w) := by
  have hG := fun w => given_any rule text w h1 h2
  cases hr : ruleR rule with
  | inl x =>
    obtain ⟨k, i⟩ := x
    have hA : orbitA rule text = ((0, 0, 0, 0), k, (i : Int)) := by unfold orbitA; rw [hr]
    rw [hA]
    exact refOrbit_bad rule text w noD noD k i (ruleR_bad hr) fun w => (hG w).mono fun e w' h => by unfold GivenOut at h; rw [hr] at h; exact ⟨h.2, h.1⟩
  | inr x =>
    obtain ⟨f, g⟩ := x
    cases hp : patR text with
    | inl x =>
      obtain ⟨k, i⟩ := x
      have hA : orbitA rule text = ((0, 0, 0, 0), k, (i : Int)) := by unfold orbitA; rw [hr]; simp only [hp]
      rw [hA]
      exact refOrbit_bad rule text w f g k i (patR_bad hp) fun w => (hG w).mono fun e w' h => by unfold GivenOut at h; rw [hr] at h; simp only [hp] at h; exact ⟨h.2, h.1⟩
    | inr C =>
      obtain ⟨X, Y, hf⟩ := patR_fine hp
      have hA : orbitA rule text = (match course f g C with | .inl k => ((0, 0, 0, 0), k, 0) | .inr (t, _) => (cycOf f g C t, 0, 0)) := by
        unfold orbitA; rw [hr]; simp only [hp]
        cases course f g C <;> rfl
      rw [hA]
      exact refOrbit_good rule text w f g C X Y hf fun w => (hG w).mono fun e w' h => by
        unfold GivenOut at h; rw [hr] at h; simp only [hp] at h; obtain ⟨hb, v, he, own⟩ := h; exact ⟨v, he, hb, own⟩

/-- What the reference's Orbit leaves of a pattern that comes back: the generations, too. -/
def RefOrbRows (f g : Nat → Bool) (C : List Cel) (t s : Nat) (w : World) (e : Ending) (w' : World) : Prop :=
  (∃ va vs, e = .returned (.tuple #[va, .agg (cycC ((s : Int), (t : Int) - (s : Int), (wayD (gen f g C s) (gen f g C t)).1, (wayD (gen f g C s) (gen f g C t)).2)), .int .i64 0, .int .i64 0]) ∧ w'.ownsRow 0 25 1 va (t + 1) vs ∧ vs.length = t + 1 ∧ ∀ (j : Nat) v, vs[j]? = some v → RowOwn w' v (gen f g C j)) ∧ Below w.heap.size w w'
set_option maxRecDepth 100000 in
set_option maxHeartbeats 1600000 in
theorem refOrbit_rows (rule text : ByteArray) (w : World) (f g : Nat → Bool) (C : List Cel) (X Y : Int) (t s : Nat) (hf : Fine C X Y) (hco : course f g C = .inr (t, s))
    (hG : ∀ w, Calls Tryz.prog 43 #[.string rule, .string text] w fun e w' => ∃ v, e = .returned (.tuple #[.agg (twoN f g), v, .int .i64 0, .int .i64 0]) ∧ Below w.heap.size w w' ∧ w'.ownsRow w.heap.size 44 2 v C.length (flatC C)) :
    Calls Tryz.prog 27 #[.string rule, .string text] w (RefOrbRows f g C t s w) := by
  have HL : Hid ((Tryz.prog.info? 77).map (·.size) = some (twoN f g).size) := info27
  have H1 : Hid ((twoN f g).all (·.oneCell') = true) := twoN_one _ _
  have HS : Hid ((twoN noD noD).size = (twoN f g).size) := rfl
  have HC : Hid (∀ v (w : World), w.ownsRow 0 44 2 v C.length (flatC C) → Calls Tryz.prog 45 #[.agg (twoN f g), v] w fun e w' => ∃ a n c vs, e = .returned (.tuple #[.slice a n c, .agg #[.int .i64 (s : Int), .int .i64 ((t : Int) - (s : Int)), .int .i64 (wayD (gen f g C s) (gen f g C t)).1, .int .i64 (wayD (gen f g C s) (gen f g C t)).2], .int .i64 0]) ∧ w'.ownsRow 0 25 1 (.slice a n c) (t + 1) vs ∧ vs.length = t + 1 ∧ (∀ (j : Nat) v, vs[j]? = some v → RowOwn w' v (gen f g C j)) ∧ Below w.heap.size w w') := fun v w own =>
    (course_any v C f g X Y w own hf.asc ⟨hf.x1, hf.x2⟩ ⟨hf.y1, hf.y2⟩ (fun c hc => by have := hf.win c hc; unfold inWin at this; omega) (by have := hf.len; omega)).mono fun e w' h => by
      unfold CourseOut at h; rw [hco] at h; obtain ⟨hb, va, vs, he, hv, hvl, hall⟩ := h
      obtain ⟨a, c, rfl⟩ := row_slice hv
      exact ⟨a, _, c, vs, he, ownsRow_up hv (Nat.zero_le _), hvl, hall, hb⟩
  unfold RefOrbRows
  obtain ⟨y1, hy1⟩ : ∃ y, (s : Int) = y := ⟨_, rfl⟩
  obtain ⟨y2, hy2⟩ : ∃ y, (t : Int) - y1 = y := ⟨_, rfl⟩
  obtain ⟨y3, hy3⟩ : ∃ y, (wayD (gen f g C s) (gen f g C t)).1 = y := ⟨_, rfl⟩
  obtain ⟨y4, hy4⟩ : ∃ y, (wayD (gen f g C s) (gen f g C t)).2 = y := ⟨_, rfl⟩
  rw [hy1, hy2, hy3, hy4] at HC ⊢
  clear hy1 hy2 hy3 hy4 hco
  obtain ⟨L, hL⟩ : ∃ L, twoN f g = L := ⟨_, rfl⟩
  rw [hL] at HL H1 HS HC
  rw [hL] at hG
  clear hL
  go_enter Tryz.func27, Tryz.ntmps27
  go_wp2_with (first
    | (go_at_call 43; refine (hG _).mono ?_; rintro e w1 ⟨v, rfl, b1, own⟩)
    | (refine wpList_store_row rfl 77 (Operand.tmp 8) (Operand.tmp 19) rfl w1.heap.size L rfl rfl 77 (twoN noD noD) (z18_new w1) HL.out HS.out H1.out ?_; go_frame
       have b8 := setRow_heap (w1.alloc (.cells Z18 77)) w1.heap.size (twoN noD noD) L 77 (0, 0) (z18_new w1)
       have own2 := law_row own L
       obtain ⟨t5, hs5, hlt, hb⟩ := box_after (L := L) (Z := Z18) b1
       clear b1 own
       generalize ((w1.alloc (.cells Z18 77)).setRow w1.heap.size L) = W2 at *)
    | (refine wpList_load_row rfl 77 (Operand.tmp 8) rfl w1.heap.size rfl 77 L (0, 0) _ b8 Tryz.underlying77 rfl HL.out ?_)
    | (go_at_call 45; refine (HC.out _ _ own2).mono ?_; rintro e w3 ⟨a, n, c, vs, rfl, hv3, hvl, hall3, b3⟩
       have t6 := (b3.block _ (blk_lt t5)).trans t5
       have hb3 : Below w.heap.size w w3 := hb.trans (b3.mono hb.size)
       have t7 := blk_old t6 (.cells #[.int .i64 y1, .int .i64 y2, .int .i64 y3, .int .i64 y4] 54)
       have n0 := cell_of t7 0; have n1 := cell_of t7 1; have n2 := cell_of t7 2; have n3 := cell_of t7 3
       have z0 := frz_of t7 0; have z1 := frz_of t7 1; have z2 := frz_of t7 2; have z3 := frz_of t7 3
       simp only [cycC] at n0 n1 n2 n3))
  go_region
  all_goals
    go_wp2
    have d5 := blk_put (j := 3) (blk_put (j := 2) (blk_put (j := 1) (blk_put (j := 0) t7 (.int .i64 y1)) (.int .i64 y2)) (.int .i64 y3)) (.int .i64 y4)
    exact bodyPost_ret (v := .tuple #[.slice a n c, .agg (cycC (y1, y2, y3, y4)), .int .i64 0, .int .i64 0]) (results_cell_row4 Tryz.results27 _ _ _ w.heap.size (cycC (y1, y2, y3, y4)) rfl (run_loadVar_row _ w.heap.size 54 54 (cycC (y1, y2, y3, y4)) (0, 0) _ d5 Tryz.underlying54 rfl infoRCyc)) rfl
      ⟨⟨_, vs, rfl, rowc_four (hv3.alloc _) t7 (by decide) _ _ _ _, hvl, fun j v hv => rowc_four (World.ownsRow.alloc (hall3 j v hv) _) t7 (by decide) _ _ _ _⟩, (((((hb3.alloc hb3.size _).setCell (Nat.le_refl _) _).setCell (Nat.le_refl _) _).setCell (Nat.le_refl _) _).setCell (Nat.le_refl _) _).drew⟩

end Go.Proofs.YtiohpcnnpmnjhaaGreatDoor
