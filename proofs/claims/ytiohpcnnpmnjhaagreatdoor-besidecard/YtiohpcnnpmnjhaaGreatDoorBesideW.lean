import Derived.Test.YtiohpcnnpmnjhaaGreatDoorFresh
import Derived.Test.YtiohpcnnpmnjhaaGreatDoorTxtM
import Derived.Test.YtiohpcnnpmnjhaaGreatDoorOnward
import Derived.Test.YtiohpcnnpmnjhaaGreatDoorRefWrite
namespace Go.Proofs.YtiohpcnnpmnjhaaGreatDoor
open Go.RowKit Go.Shelf
set_option linter.unusedVariables false

theorem fold_len2 : ∀ (l out : List Cel), (l.foldl withC out).length ≤ out.length + l.length
  | [], out => by simp
  | c :: l, out => by
    have h1 := fold_len2 l (withC out c)
    have h2 := len_withC out c
    simp only [List.foldl_cons, List.length_cons]
    omega

set_option maxRecDepth 100000 in
set_option maxHeartbeats 3200000 in
theorem beside_bad (rule text  : ByteArray) (k y1 y2 y3 y4 K I J : Int)  (w : World) (ht : Tab w.heap.size w) (hT : TurnTab w)
    (hPa : ∀ w, Tab w.heap.size w → Calls Tryz.prog 26 #[.string rule, .string text] w (PartsOut ([], K, I) w))
    (hOr : ∀ w, Calls Tryz.prog 20 #[.string rule, .string text] w fun e w' => e = .returned (.tuple #[.agg #[.int .i64 y1, .int .i64 y2, .int .i64 y3, .int .i64 y4], .int .i64 K, .int .i64 J]) ∧ Below w.heap.size w w')
    (hk : K ≠ 0) :
    Calls Tryz.prog 8 #[.string rule, .string text, .int .i64 k] w fun e w' => e = .returned (.bool true) ∧ Below w.heap.size w w' := by
  have z0 : (K == 0) = false := by simpa using hk
  have z2 : (K != K) = false := by simp
  by_cases h4 : K = 4
  · have z4 : (K == 4) = true := by simp [h4]
    subst h4
    go_enter Tryz.func8, Tryz.ntmps8
    go_wp2_with (first
      | (go_at_call 31; refine (named_any w ht hT).mono ?_; rintro e w0 ⟨rfl, b0⟩)
      | (go_at_call 26; refine (hPa _ (tab_up ht b0 b0.size)).mono ?_; rintro e w1 ⟨⟨v1, rfl, hT1⟩, c⟩; have b1 := b0.trans (c.mono b0.size); clear c; obtain rfl := hT1.2 rfl)
      | (go_at_call 20; refine (hOr _).mono ?_; rintro e w2 ⟨rfl, c⟩; have b2 := (b1.trans (c.mono b1.size)).alloc (b1.trans (c.mono b1.size)).size (.cells #[.int .i64 y1, .int .i64 y2, .int .i64 y3, .int .i64 y4] 37); have t2 := blk_new w2 (.cells #[.int .i64 y1, .int .i64 y2, .int .i64 y3, .int .i64 y4] 37); have d2 : Below w1.heap.size w1 (w2.alloc (.cells #[.int .i64 y1, .int .i64 y2, .int .i64 y3, .int .i64 y4] 37)) := c.alloc c.size _; clear c; have n0 := cell_of t2 0)
      | (go_at_call 14; refine (num_any _ _).mono ?_; rintro e wk ⟨rfl, rfl⟩)
      | (go_at_call 18; refine (known_any _ _).mono ?_; rintro e wk ⟨rfl, rfl⟩))
    go_ret
    exact ⟨rfl, b2⟩
  · have z4 : (K == 4) = false := by simpa using h4
    go_enter Tryz.func8, Tryz.ntmps8
    go_wp2_with (first
      | (go_at_call 31; refine (named_any w ht hT).mono ?_; rintro e w0 ⟨rfl, b0⟩)
      | (go_at_call 26; refine (hPa _ (tab_up ht b0 b0.size)).mono ?_; rintro e w1 ⟨⟨v1, rfl, hT1⟩, c⟩; have b1 := b0.trans (c.mono b0.size); clear c; obtain rfl := hT1.2 rfl)
      | (go_at_call 20; refine (hOr _).mono ?_; rintro e w2 ⟨rfl, c⟩; have b2 := (b1.trans (c.mono b1.size)).alloc (b1.trans (c.mono b1.size)).size (.cells #[.int .i64 y1, .int .i64 y2, .int .i64 y3, .int .i64 y4] 37); have t2 := blk_new w2 (.cells #[.int .i64 y1, .int .i64 y2, .int .i64 y3, .int .i64 y4] 37); have d2 : Below w1.heap.size w1 (w2.alloc (.cells #[.int .i64 y1, .int .i64 y2, .int .i64 y3, .int .i64 y4] 37)) := c.alloc c.size _; clear c; have n0 := cell_of t2 0)
      | (go_at_call 14; refine (num_any _ _).mono ?_; rintro e wk ⟨rfl, rfl⟩)
      | (go_at_call 18; refine (known_any _ _).mono ?_; rintro e wk ⟨rfl, rfl⟩))
    go_ret
    exact ⟨rfl, b2⟩

set_option maxRecDepth 100000 in
set_option maxHeartbeats 3200000 in
theorem beside_far (rule text s : ByteArray) (k y1 y2 y3 y4 I J ix : Int)  (w : World) (ht : Tab w.heap.size w) (hT : TurnTab w)
    (hPa : ∀ w, Tab w.heap.size w → Calls Tryz.prog 26 #[.string rule, .string text] w (PartsOut ([], 4, I) w))
    (hOr : ∀ w, Calls Tryz.prog 20 #[.string rule, .string text] w fun e w' => e = .returned (.tuple #[.agg #[.int .i64 y1, .int .i64 y2, .int .i64 y3, .int .i64 y4], .int .i64 0, .int .i64 J]) ∧ Below w.heap.size w w')
    (hSt : ∀ w, Tab w.heap.size w → Calls Tryz.prog 12 #[.string rule, .string text, .int .i64 (y1)] w fun e w' => e = .returned (.tuple #[.string s, .int .i64 4, .int .i64 ix]) ∧ Below w.heap.size w w') :
    Calls Tryz.prog 8 #[.string rule, .string text, .int .i64 k] w fun e w' => e = .returned (.bool true) ∧ Below w.heap.size w w' := by
  have hnil : ∀ w : World, (binOp BinOp.eql 50 (.slice none 0 0) (.slice none 0 0)).run Tryz.prog w = .ok (.bool true) w := fun _ => by kernel_rfl
  go_enter Tryz.func8, Tryz.ntmps8
  go_wp2_with (first
    | (go_at_call 31; refine (named_any w ht hT).mono ?_; rintro e w0 ⟨rfl, b0⟩)
    | (go_at_call 26; refine (hPa _ (tab_up ht b0 b0.size)).mono ?_; rintro e w1 ⟨⟨v1, rfl, hT1⟩, c⟩; have b1 := b0.trans (c.mono b0.size); clear c; obtain rfl := hT1.2 rfl)
    | (go_at_call 20; refine (hOr _).mono ?_; rintro e w2 ⟨rfl, c⟩; have b2 := (b1.trans (c.mono b1.size)).alloc (b1.trans (c.mono b1.size)).size (.cells #[.int .i64 y1, .int .i64 y2, .int .i64 y3, .int .i64 y4] 37); have t2 := blk_new w2 (.cells #[.int .i64 y1, .int .i64 y2, .int .i64 y3, .int .i64 y4] 37); have d2 : Below w1.heap.size w1 (w2.alloc (.cells #[.int .i64 y1, .int .i64 y2, .int .i64 y3, .int .i64 y4] 37)) := c.alloc c.size _; clear c; have n0 := cell_of t2 0)
    | (go_at_call 12; refine (hSt _ (tab_up ht b2 b2.size)).mono ?_; rintro e w3 ⟨rfl, c⟩; have b3 := b2.trans (c.mono b2.size); have d3 := d2.trans (c.mono d2.size); clear c)
    | (go_at_call 14; refine (num_any _ _).mono ?_; rintro e wk ⟨rfl, rfl⟩)
    | (go_at_call 18; refine (known_any _ _).mono ?_; rintro e wk ⟨rfl, rfl⟩))
  go_ret
  exact ⟨rfl, b3⟩

set_option maxRecDepth 100000 in
set_option maxHeartbeats 3200000 in
theorem beside_out (rule text  : ByteArray) (k y1 y2 y3 y4 I J : Int) (Ts : List ByteArray) (w : World) (ht : Tab w.heap.size w) (hT : TurnTab w)
    (hPa : ∀ w, Tab w.heap.size w → Calls Tryz.prog 26 #[.string rule, .string text] w (PartsOut (Ts, 0, I) w))
    (hOr : ∀ w, Calls Tryz.prog 20 #[.string rule, .string text] w fun e w' => e = .returned (.tuple #[.agg #[.int .i64 y1, .int .i64 y2, .int .i64 y3, .int .i64 y4], .int .i64 0, .int .i64 J]) ∧ Below w.heap.size w w')
    (hq : cntB k = false ∨ (cntB k = true ∧ 500000000000000000 < k)) :
    Calls Tryz.prog 8 #[.string rule, .string text, .int .i64 k] w fun e w' => e = .returned (.bool true) ∧ Below w.heap.size w w' := by
  rcases hq with hc | ⟨hc, hl⟩
  · go_enter Tryz.func8, Tryz.ntmps8
    go_wp2_with (first
      | (go_at_call 31; refine (named_any w ht hT).mono ?_; rintro e w0 ⟨rfl, b0⟩)
      | (go_at_call 26; refine (hPa _ (tab_up ht b0 b0.size)).mono ?_; rintro e w1 ⟨⟨v1, rfl, hT1⟩, c⟩; have b1 := b0.trans (c.mono b0.size); clear c; obtain ⟨a1, c1, rfl⟩ := row_slice hT1.1)
      | (go_at_call 20; refine (hOr _).mono ?_; rintro e w2 ⟨rfl, c⟩; have b2 := (b1.trans (c.mono b1.size)).alloc (b1.trans (c.mono b1.size)).size (.cells #[.int .i64 y1, .int .i64 y2, .int .i64 y3, .int .i64 y4] 37); have t2 := blk_new w2 (.cells #[.int .i64 y1, .int .i64 y2, .int .i64 y3, .int .i64 y4] 37); have d2 : Below w1.heap.size w1 (w2.alloc (.cells #[.int .i64 y1, .int .i64 y2, .int .i64 y3, .int .i64 y4] 37)) := c.alloc c.size _; clear c; have n0 := cell_of t2 0)
      | (go_at_call 19; refine (counted_any _ _).mono ?_; rintro e wk ⟨rfl, rfl⟩)
      | (go_at_call 14; refine (num_any _ _).mono ?_; rintro e wk ⟨rfl, rfl⟩)
      | (go_at_call 18; refine (known_any _ _).mono ?_; rintro e wk ⟨rfl, rfl⟩))
    go_ret
    exact ⟨rfl, b2⟩
  · have z5 : decide (500000000000000000 < k) = true := decide_eq_true hl
    go_enter Tryz.func8, Tryz.ntmps8
    go_wp2_with (first
      | (go_at_call 31; refine (named_any w ht hT).mono ?_; rintro e w0 ⟨rfl, b0⟩)
      | (go_at_call 26; refine (hPa _ (tab_up ht b0 b0.size)).mono ?_; rintro e w1 ⟨⟨v1, rfl, hT1⟩, c⟩; have b1 := b0.trans (c.mono b0.size); clear c; obtain ⟨a1, c1, rfl⟩ := row_slice hT1.1)
      | (go_at_call 20; refine (hOr _).mono ?_; rintro e w2 ⟨rfl, c⟩; have b2 := (b1.trans (c.mono b1.size)).alloc (b1.trans (c.mono b1.size)).size (.cells #[.int .i64 y1, .int .i64 y2, .int .i64 y3, .int .i64 y4] 37); have t2 := blk_new w2 (.cells #[.int .i64 y1, .int .i64 y2, .int .i64 y3, .int .i64 y4] 37); have d2 : Below w1.heap.size w1 (w2.alloc (.cells #[.int .i64 y1, .int .i64 y2, .int .i64 y3, .int .i64 y4] 37)) := c.alloc c.size _; clear c; have n0 := cell_of t2 0)
      | (go_at_call 19; refine (counted_any _ _).mono ?_; rintro e wk ⟨rfl, rfl⟩)
      | (go_at_call 14; refine (num_any _ _).mono ?_; rintro e wk ⟨rfl, rfl⟩)
      | (go_at_call 18; refine (known_any _ _).mono ?_; rintro e wk ⟨rfl, rfl⟩))
    go_ret
    exact ⟨rfl, b2⟩

set_option maxRecDepth 100000 in
set_option maxHeartbeats 3200000 in
theorem beside_let (rule text s : ByteArray) (k y1 y2 y3 y4 I J ix : Int) (Ts : List ByteArray) (w : World) (ht : Tab w.heap.size w) (hT : TurnTab w)
    (hPa : ∀ w, Tab w.heap.size w → Calls Tryz.prog 26 #[.string rule, .string text] w (PartsOut (Ts, 0, I) w))
    (hOr : ∀ w, Calls Tryz.prog 20 #[.string rule, .string text] w fun e w' => e = .returned (.tuple #[.agg #[.int .i64 y1, .int .i64 y2, .int .i64 y3, .int .i64 y4], .int .i64 0, .int .i64 J]) ∧ Below w.heap.size w w')
    (hSt : ∀ w, Tab w.heap.size w → Calls Tryz.prog 12 #[.string rule, .string text, .int .i64 (y1 + k)] w fun e w' => e = .returned (.tuple #[.string s, .int .i64 4, .int .i64 ix]) ∧ Below w.heap.size w w')
    (hc : cntB k = true) (hl : k ≤ 500000000000000000) (hy : 0 ≤ y1 ∧ y1 ≤ 1000) (hk0 : 0 ≤ k) :
    Calls Tryz.prog 8 #[.string rule, .string text, .int .i64 k] w fun e w' => e = .returned (.bool true) ∧ Below w.heap.size w w' := by
  have z5 : decide (500000000000000000 < k) = false := decide_eq_false (by omega)
  go_enter Tryz.func8, Tryz.ntmps8
  go_wp2_with (first
    | (go_at_call 31; refine (named_any w ht hT).mono ?_; rintro e w0 ⟨rfl, b0⟩)
    | (go_at_call 26; refine (hPa _ (tab_up ht b0 b0.size)).mono ?_; rintro e w1 ⟨⟨v1, rfl, hT1⟩, c⟩; have b1 := b0.trans (c.mono b0.size); clear c; obtain ⟨a1, c1, rfl⟩ := row_slice hT1.1)
    | (go_at_call 20; refine (hOr _).mono ?_; rintro e w2 ⟨rfl, c⟩; have b2 := (b1.trans (c.mono b1.size)).alloc (b1.trans (c.mono b1.size)).size (.cells #[.int .i64 y1, .int .i64 y2, .int .i64 y3, .int .i64 y4] 37); have t2 := blk_new w2 (.cells #[.int .i64 y1, .int .i64 y2, .int .i64 y3, .int .i64 y4] 37); have d2 : Below w1.heap.size w1 (w2.alloc (.cells #[.int .i64 y1, .int .i64 y2, .int .i64 y3, .int .i64 y4] 37)) := c.alloc c.size _; clear c; have n0 := cell_of t2 0)
    | (go_at_call 12; refine (hSt _ (tab_up ht b2 b2.size)).mono ?_; rintro e w3 ⟨rfl, c⟩; have b3 := b2.trans (c.mono b2.size); have d3 := d2.trans (c.mono d2.size); clear c)
    | (go_at_call 19; refine (counted_any _ _).mono ?_; rintro e wk ⟨rfl, rfl⟩)
    | (go_at_call 14; refine (num_any _ _).mono ?_; rintro e wk ⟨rfl, rfl⟩)
    | (go_at_call 18; refine (known_any _ _).mono ?_; rintro e wk ⟨rfl, rfl⟩))
  go_ret
  exact ⟨rfl, b3⟩

set_option maxRecDepth 100000 in
set_option maxHeartbeats 3200000 in
theorem beside_told (rule text s : ByteArray) (k y1 y2 y3 y4 I J ix : Int) (Ts Us : List ByteArray) (Ds : List (List Cel)) (D : List Cel) (w : World) (ht : Tab w.heap.size w) (hT : TurnTab w)
    (hPa : ∀ w, Tab w.heap.size w → Calls Tryz.prog 26 #[.string rule, .string text] w (PartsOut (Ts, 0, I) w))
    (hOr : ∀ w, Calls Tryz.prog 20 #[.string rule, .string text] w fun e w' => e = .returned (.tuple #[.agg #[.int .i64 y1, .int .i64 y2, .int .i64 y3, .int .i64 y4], .int .i64 0, .int .i64 J]) ∧ Below w.heap.size w w')
    (hSt : ∀ w, Tab w.heap.size w → Calls Tryz.prog 12 #[.string rule, .string text, .int .i64 (y1 + k)] w fun e w' => e = .returned (.tuple #[.string s, .int .i64 0, .int .i64 ix]) ∧ Below w.heap.size w w')
    (hc : cntB k = true) (hl : k ≤ 500000000000000000) (hy : 0 ≤ y1 ∧ y1 ≤ 1000) (hk0 : 0 ≤ k) (hTl : Ts.length = Ds.length) (hUl : Us.length = Ds.length) (hDl : Ds.length ≤ 100) (hemp : Ts = [] ↔ s.toList = [48, 32, 48, 32, 33])
    (hS2 : ∀ (i : Nat) T U, Ts[i]? = some T → Us[i]? = some U → ∀ w, Tab w.heap.size w → Calls Tryz.prog 12 #[.string rule, .string T, .int .i64 k] w fun e w' => e = .returned (.tuple #[.string U, .int .i64 0, .int .i64 0]) ∧ Below w.heap.size w w')
    (hRd : ∀ (i : Nat) U E, Us[i]? = some U → Ds[i]? = some E → ∀ w, Calls Tryz.prog 22 #[.string U] w fun e w' => (∃ v, e = .returned (.tuple #[v, .int .i64 0, .int .i64 0]) ∧ RowAt w' v E) ∧ Below w.heap.size w w')
    (hne : ∀ E ∈ Ds, E ≠ []) (hall : Ds.flatten.foldl withC [] = D) (hlen : Ds.flatten.length = D.length) (hD : D.length ≤ 100)
    (hWr : ∀ v w, w.ownsRow 0 44 2 v D.length (flatC D) → Calls Tryz.prog 15 #[v] w fun e w' => e = .returned (.string s) ∧ Below w.heap.size w w') :
    Calls Tryz.prog 8 #[.string rule, .string text, .int .i64 k] w fun e w' => e = .returned (.bool true) ∧ Below w.heap.size w w' := by
  have z5 : decide (500000000000000000 < k) = false := decide_eq_false (by omega)
  have HTl : Hid (Ts.length = Ds.length) := hTl
  have HUl : Hid (Us.length = Ds.length) := hUl
  have HLen : Hid (Ds.flatten.length = D.length) := hlen
  have HAll : Hid (Ds.flatten.foldl withC [] = D) := hall
  have hTs : Ts.length ≤ 100 := by omega
  clear hTl hUl hlen hall
  by_cases h : Ts = []
  · have e1 := hemp.1 h
    have e2 : s = ⟨#[48, 32, 48, 32, 33]⟩ := by
      obtain ⟨⟨sl⟩⟩ := s
      rw [Lib.toList_data] at e1
      simp only at e1
      rw [e1]
    obtain rfl : Ds = [] := by have := HTl.out; rw [h] at this; exact List.length_eq_zero_iff.1 this.symm
    have hDn : D = [] := HAll.out.symm
    subst h e2 hDn
    clear hemp e1 hS2 hRd hne

    go_enter Tryz.func8, Tryz.ntmps8
    go_wp2_with (first
      | (go_at_call 31; refine (named_any w ht hT).mono ?_; rintro e w0 ⟨rfl, b0⟩)
      | (go_at_call 26; refine (hPa _ (tab_up ht b0 b0.size)).mono ?_; rintro e w1 ⟨⟨v1, rfl, hT1⟩, c⟩; have b1 := b0.trans (c.mono b0.size); clear c; obtain rfl := hT1.2 rfl)
      | (go_at_call 20; refine (hOr _).mono ?_; rintro e w2 ⟨rfl, c⟩; have b2 := (b1.trans (c.mono b1.size)).alloc (b1.trans (c.mono b1.size)).size (.cells #[.int .i64 y1, .int .i64 y2, .int .i64 y3, .int .i64 y4] 37); have t2 := blk_new w2 (.cells #[.int .i64 y1, .int .i64 y2, .int .i64 y3, .int .i64 y4] 37); have d2 : Below w1.heap.size w1 (w2.alloc (.cells #[.int .i64 y1, .int .i64 y2, .int .i64 y3, .int .i64 y4] 37)) := c.alloc c.size _; clear c; have n0 := cell_of t2 0)
      | (go_at_call 12; refine (hSt _ (tab_up ht b2 b2.size)).mono ?_; rintro e w3 ⟨rfl, c2⟩; have b3 := b2.trans (c2.mono b2.size); have d3 := d2.trans (c2.mono d2.size))
      | (go_at_call 19; refine (counted_any _ _).mono ?_; rintro e wk ⟨rfl, rfl⟩)
      | (go_at_call 14; refine (num_any _ _).mono ?_; rintro e wk ⟨rfl, rfl⟩)
      | (go_at_call 18; refine (known_any _ _).mono ?_; rintro e wk ⟨rfl, rfl⟩))
    go_loopw [20, 21, 22] (fun va vn vi wr => va = .slice none 0 0 ∧ vn = .int .i64 0 ∧ vi = .int .i64 0 ∧ Below w.heap.size w wr) (fun _ _ _ _ => 0)
    case atStart => exact ⟨rfl, rfl, rfl, b3⟩
    case round =>
      obtain ⟨rfl, rfl, rfl, hb⟩ := hrel
      have own : wr.ownsRow 0 44 2 (.slice none 0 0) ([] : List Cel).length (flatC []) := World.ownsRow_nil _ _ _ _
      go_wp2_with (go_at_call 15; refine (hWr _ _ own).mono ?_; rintro e w7 ⟨rfl, c7⟩)
      go_ret
      exact ⟨rfl, hb.trans (c7.mono hb.size)⟩

  have h4 : ¬ (Ts.length : Int) = 0 := by have : Ts.length ≠ 0 := fun e => h (List.length_eq_zero_iff.1 e); omega
  have h4' : ((Ts.length : Int) == 0) = false := by simpa using h4
  have h5 : ¬ s.toList = [48, 32, 48, 32, 33] := fun e => h (hemp.2 e)
  have h5' : (s.toList == [48, 32, 48, 32, 33]) = false := by simpa using h5
  clear hemp h
  go_enter Tryz.func8, Tryz.ntmps8
  go_wp2_with (first
    | (go_at_call 31; refine (named_any w ht hT).mono ?_; rintro e w0 ⟨rfl, b0⟩)
    | (go_at_call 26; refine (hPa _ (tab_up ht b0 b0.size)).mono ?_; rintro e w1 ⟨⟨v1, rfl, hT1⟩, c⟩; have b1 := b0.trans (c.mono b0.size); clear c; obtain ⟨a1, c1, rfl⟩ := row_slice hT1.1)
    | (go_at_call 20; refine (hOr _).mono ?_; rintro e w2 ⟨rfl, c⟩; have b2 := (b1.trans (c.mono b1.size)).alloc (b1.trans (c.mono b1.size)).size (.cells #[.int .i64 y1, .int .i64 y2, .int .i64 y3, .int .i64 y4] 37); have t2 := blk_new w2 (.cells #[.int .i64 y1, .int .i64 y2, .int .i64 y3, .int .i64 y4] 37); have d2 : Below w1.heap.size w1 (w2.alloc (.cells #[.int .i64 y1, .int .i64 y2, .int .i64 y3, .int .i64 y4] 37)) := c.alloc c.size _; clear c; have n0 := cell_of t2 0)
    | (go_at_call 12; refine (hSt _ (tab_up ht b2 b2.size)).mono ?_; rintro e w3 ⟨rfl, c2⟩; have b3 := b2.trans (c2.mono b2.size); have d3 := d2.trans (c2.mono d2.size))
    | (go_at_call 19; refine (counted_any _ _).mono ?_; rintro e wk ⟨rfl, rfl⟩)
    | (go_at_call 14; refine (num_any _ _).mono ?_; rintro e wk ⟨rfl, rfl⟩)
    | (go_at_call 18; refine (known_any _ _).mono ?_; rintro e wk ⟨rfl, rfl⟩))
  go_loopw [20, 21, 22] (fun va vn vi wr => ∃ m : Nat, m ≤ Ds.length ∧ vi = .int .i64 (m : Int) ∧ vn = .int .i64 ((Ds.take m).flatten.length : Int) ∧ wr.ownsRow 0 44 2 va ((Ds.take m).flatten.foldl withC []).length (flatC ((Ds.take m).flatten.foldl withC [])) ∧ Below w.heap.size w wr ∧ Below w1.heap.size w1 wr) (fun _ _ vi _ => Ds.length - (intOf vi).toNat)
  case atStart => exact ⟨0, Nat.zero_le _, rfl, rfl, World.ownsRow_nil _ _ _ _, b3, d3⟩
  case round =>
    obtain ⟨m, hm, rfl, rfl, own, hb, hd⟩ := hrel
    by_cases hlt : m < Ds.length
    · have hmi : (m : Int) < (Ts.length : Int) := by rw [HTl.out]; omega
      obtain ⟨E, hE⟩ : ∃ E, Ds[m]? = some E := ⟨Ds[m], by simp [hlt]⟩
      obtain ⟨T, hT0⟩ : ∃ T, Ts[m]? = some T := ⟨Ts[m]'(by rw [HTl.out]; exact hlt), by simp [show m < Ts.length by rw [HTl.out]; exact hlt]⟩
      obtain ⟨U, hU⟩ : ∃ U, Us[m]? = some U := ⟨Us[m]'(by rw [HUl.out]; exact hlt), by simp [show m < Us.length by rw [HUl.out]; exact hlt]⟩
      have hSt2 := hS2 m T U hT0 hU wr (tab_up ht hb hb.size)
      have hRd2 := hRd m U E hU hE
      have hEn := hne E (List.mem_of_getElem? hE)
      have hEl : ¬ (E.length : Int) = 0 := by have : E.length ≠ 0 := fun e => hEn (List.length_eq_zero_iff.1 e); omega
      have hEl2 : ((E.length : Int) == 0) = false := by simpa using hEl
      have hfl : (Ds.take (m + 1)).flatten = (Ds.take m).flatten ++ E := by rw [List.take_add_one, hE]; simp
      have hsub : (Ds.take (m + 1)).flatten.length ≤ 100 := by
        refine Nat.le_trans ?_ (HLen.out ▸ hD)
        have : Ds.flatten = (Ds.take (m + 1)).flatten ++ (Ds.drop (m + 1)).flatten := by rw [← List.flatten_append, List.take_append_drop]
        rw [this, List.length_append]; omega
      have HFL : Hid ((Ds.take (m + 1)).flatten = (Ds.take m).flatten ++ E) := hfl
      rw [hfl, List.length_append] at hsub
      clear hfl
      obtain ⟨M, hM⟩ : ∃ M, (Ds.take m).flatten = M := ⟨_, rfl⟩
      rw [hM] at own hsub HFL ⊢
      clear hM
      have hcell : ∃ L, a1 = some ⟨L, 0, none⟩ ∧ wr.cell? ⟨L, m, none⟩ = some (.string T) := by
        rcases hT1.block with ⟨_, h⟩ | ⟨L, cp, h, hB, hS⟩
        · rw [h] at hT0; simp at hT0
        · cases h
          exact ⟨L, rfl, (hS.keep (hd.block _ hS.lt)).cell hT0⟩
      obtain ⟨L, rfl, c0⟩ := hcell
      go_wp2_with (first
        | (go_at_call 12; refine hSt2.mono ?_; rintro e w5 ⟨rfl, c5⟩)
        | (go_at_call 22; refine (hRd2 _).mono ?_; rintro e w6 ⟨⟨v6, rfl, rw6⟩, c6⟩; obtain ⟨ad, cp6, rfl⟩ := rw6.slice)
        | (go_at_call 18; refine (known_any _ _).mono ?_; rintro e wk ⟨rfl, hw⟩; have hw := hw.symm; subst hw))
      have b5 : Below w.heap.size w w5 := hb.trans (c5.mono hb.size)
      have b6 : Below w.heap.size w w6 := b5.trans (c6.mono b5.size)
      have d6 : Below w1.heap.size w1 w6 := (hd.trans (c5.mono hd.size)).trans (c6.mono (hd.trans (c5.mono hd.size)).size)
      have own6 := rowBelow (rowBelow own c5) c6
      go_loopw [20, 29] (fun va vj wq => ∃ q : Nat, q ≤ E.length ∧ vj = .int .i64 (q : Int) ∧ wq.ownsRow 0 44 2 va ((E.take q).foldl withC (M.foldl withC [])).length (flatC ((E.take q).foldl withC (M.foldl withC []))) ∧ Below w6.heap.size w6 wq) (fun _ vj _ => E.length - (intOf vj).toNat)
      case atStart => exact ⟨0, Nat.zero_le _, rfl, own6, Below.refl _ _⟩
      case round =>
        rename_i wq _ _
        obtain ⟨q, hq, rfl, ownq, hbq⟩ := hrel
        by_cases hlt2 : q < E.length
        · have hqi : (q : Int) < (E.length : Int) := by omega
          obtain ⟨⟨x, y⟩, hx⟩ : ∃ d, E[q]? = some d := ⟨E[q], by simp [hlt2]⟩
          obtain ⟨G, rfl, hg, hget⟩ := rw6.get hx
          obtain ⟨e0, e1⟩ := hget _ hbq
          simp only at e0 e1
          have hBl : ((E.take q).foldl withC (M.foldl withC [])).length ≤ 100 := by
            have h1 := fold_len2 (E.take q) (M.foldl withC [])
            have h2 := fold_len2 M []
            simp only [List.length_take, List.length_nil] at h1 h2
            omega
          have HN : Hid ((E.take (q + 1)).foldl withC (M.foldl withC []) = withC ((E.take q).foldl withC (M.foldl withC [])) (x, y)) := by
            show _ = _
            rw [List.take_add_one, hx, List.foldl_append]; rfl
          obtain ⟨Bq, hBq⟩ : ∃ Bq, (E.take q).foldl withC (M.foldl withC []) = Bq := ⟨_, rfl⟩
          rw [hBq] at ownq hBl HN
          clear hBq
          obtain ⟨av, cv, rfl⟩ := row_slice ownq
          have hW := fun W hW => with_any (.slice av Bq.length cv) Bq x y W (RowAt.of_owns (rowBelow ownq hW)) (by omega)
          go_wp2_with (go_at_call 32; refine (hW _ (Below.refl _ _)).mono ?_; rintro e w8 ⟨⟨v8, rfl, own8⟩, c8⟩)
          go_roundw
          case rel =>
            refine ⟨q + 1, by omega, by go_num, ?_, hbq.trans (c8.mono hbq.size)⟩
            rw [HN.out]
            exact ownsRow_low own8 (Nat.zero_le _)
          case measure => simp [intOf]; omega
        · obtain rfl : q = E.length := by omega
          rw [List.take_length] at ownq
          go_wp2
          go_roundw
          case rel =>
            refine ⟨m + 1, by omega, by go_num, ?_, ?_, b6.trans (hbq.mono b6.size), d6.trans (hbq.mono d6.size)⟩
            · rw [HFL.out, List.length_append]; go_num
            · rw [HFL.out, List.foldl_append]; exact ownq
          case measure => simp [intOf]; omega
    · obtain rfl : m = Ds.length := by omega
      have hmi : ¬ ((Ds.length : Nat) : Int) < (Ts.length : Int) := by rw [HTl.out]; omega
      rw [List.take_length, HAll.out] at own
      rw [List.take_length, HLen.out]
      obtain ⟨av, cv, rfl⟩ := row_slice own
      go_wp2_with (go_at_call 15; refine (hWr _ _ own).mono ?_; rintro e w7 ⟨rfl, c7⟩)
      go_ret
      exact ⟨rfl, hb.trans (c7.mono hb.size)⟩

end Go.Proofs.YtiohpcnnpmnjhaaGreatDoor
