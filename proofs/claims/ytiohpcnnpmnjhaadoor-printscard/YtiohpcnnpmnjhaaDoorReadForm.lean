import Derived.Test.YtiohpcnnpmnjhaaDoorReadRuns
namespace Go.Proofs.YtiohpcnnpmnjhaaDoor
open Go.RowKit
set_option linter.unusedVariables false

theorem At.new (w : World) (s : ByteArray) (k : Int) : At (w.alloc (.cells #[.string s, .int .i64 0, .int .i64 k] 78)) w.heap.size s k 0 :=
  ⟨by simp, by simp, by simp, by simp⟩

theorem capP_bd (z : Int) : -2000000000000000001 ≤ capP z ∧ capP z ≤ 2000000000000000001 := by unfold capP MC; split <;> (try split) <;> omega

/-- The form is refused. -/
def FormBad (w : World) (i : Nat) (e : Ending) (w' : World) : Prop := e = .panicked (refusal 2 i) ∧ Below w.heap.size w w'

theorem hdr (w : World) (s : ByteArray) : Below w.heap.size w ((w.alloc (.cells #[.int .i64 0, .int .i64 0] 53)).alloc (.cells #[.string s, .int .i64 0, .int .i64 2] 78)) :=
  ((Below.refl _ _).alloc (Nat.le_refl _) _).alloc (by simp) _
theorem hdrAt (w : World) (s : ByteArray) : At ((w.alloc (.cells #[.int .i64 0, .int .i64 0] 53)).alloc (.cells #[.string s, .int .i64 0, .int .i64 2] 78)) (w.heap.size + 1) s 2 0 := by
  have := At.new (w.alloc (.cells #[.int .i64 0, .int .i64 0] 53)) s 2
  simpa using this

set_option maxHeartbeats 800000 in
theorem readForm_x (s : ByteArray) (w : World) (hs : s.size ≤ 1500) (h1 : numTok s (bl s 0) = none) :
    Calls Tryd.prog 24 #[.string s] w (FormBad w (bl s 0)) := by
  have hb := hdr w s
  have ha := hdrAt w s
  have l0 := bl_le s 0 (Nat.zero_le _)
  go_enter Tryd.func24, Tryd.ntmps24
  go_wp2_with (first
    | (go_at_call 36; refine (takeBlanks_any (w.heap.size + 1) s 2 0 _ ha (Nat.zero_le _) hs).mono ?_; rintro e w1 ⟨rfl, a1, n1⟩)
    | (go_at_call 37; refine (readNumber_none (w.heap.size + 1) s 2 _ _ a1 l0.2 hs h1).mono ?_; rintro e w2 ⟨rfl, n2⟩))
  exact ⟨rfl, rfl, hb.trans ((n1.trans n2).below (by omega))⟩

set_option maxHeartbeats 800000 in
theorem readForm_gap (s : ByteArray) (w : World) (hs : s.size ≤ 1500) (x : Int) (j : Nat) (h1 : numTok s (bl s 0) = some (x, j)) (h2 : bl s j = j) :
    Calls Tryd.prog 24 #[.string s] w (FormBad w j) := by
  have hnot : ∀ (x : Bool) (w : World), (Op.unary .not (.bool x)).run Tryd.prog w = .ok (.bool (!x)) w := fun _ _ => rfl
  have hb := hdr w s
  have ha := hdrAt w s
  have l0 := bl_le s 0 (Nat.zero_le _)
  have l1 := numTok_le l0.2 h1
  have hT := fun w2 (a2 : At w2 (w.heap.size + 1) s 2 j) => takeBlanks_any (w.heap.size + 1) s 2 j w2 a2 l1.2 hs
  simp only [h2, Nat.lt_irrefl, decide_false] at hT
  go_enter Tryd.func24, Tryd.ntmps24
  go_wp2_with (first
    | (go_at_call 36; refine (takeBlanks_any (w.heap.size + 1) s 2 0 _ ha (Nat.zero_le _) hs).mono ?_; rintro e w1 ⟨rfl, a1, n1⟩; clear ha)
    | (go_at_call 37; refine (readNumber_some (w.heap.size + 1) s 2 _ _ a1 l0.2 hs x j h1).mono ?_; rintro e w2 ⟨rfl, a2, n2⟩)
    | (go_at_call 36; refine (hT _ a2).mono ?_; rintro e w3 ⟨rfl, a3, n3⟩)
    | (go_at_call 38; refine (refuse_any (w.heap.size + 1) s 2 j _ a3).mono ?_; rintro e w4 ⟨rfl, m4, rfl⟩))
  exact ⟨rfl, rfl, hb.trans ((((n1.trans n2).trans n3).drewN m4).below (by omega))⟩

set_option maxHeartbeats 800000 in
theorem readForm_y (s : ByteArray) (w : World) (hs : s.size ≤ 1500) (x : Int) (j : Nat) (h1 : numTok s (bl s 0) = some (x, j)) (h2 : ¬ bl s j = j) (h3 : numTok s (bl s j) = none) :
    Calls Tryd.prog 24 #[.string s] w (FormBad w (bl s j)) := by
  have hnot : ∀ (x : Bool) (w : World), (Op.unary .not (.bool x)).run Tryd.prog w = .ok (.bool (!x)) w := fun _ _ => rfl
  have hb := hdr w s
  have ha := hdrAt w s
  have l0 := bl_le s 0 (Nat.zero_le _)
  have l1 := numTok_le l0.2 h1
  have l2 := bl_le s j l1.2
  have hT := fun w2 (a2 : At w2 (w.heap.size + 1) s 2 j) => takeBlanks_any (w.heap.size + 1) s 2 j w2 a2 l1.2 hs
  have hlt : j < bl s j := by omega
  simp only [hlt, decide_true] at hT
  go_enter Tryd.func24, Tryd.ntmps24
  go_wp2_with (first
    | (go_at_call 36; refine (takeBlanks_any (w.heap.size + 1) s 2 0 _ ha (Nat.zero_le _) hs).mono ?_; rintro e w1 ⟨rfl, a1, n1⟩; clear ha)
    | (go_at_call 37; refine (readNumber_some (w.heap.size + 1) s 2 _ _ a1 l0.2 hs x j h1).mono ?_; rintro e w2 ⟨rfl, a2, n2⟩; clear a1)
    | (go_at_call 36; refine (hT _ a2).mono ?_; rintro e w3 ⟨rfl, a3, n3⟩)
    | (go_at_call 37; refine (readNumber_none (w.heap.size + 1) s 2 _ _ a3 l2.2 hs h3).mono ?_; rintro e w4 ⟨rfl, n4⟩))
  exact ⟨rfl, rfl, hb.trans ((((n1.trans n2).trans n3).trans n4).below (by omega))⟩

/-- The start's cell and the pen, laid: what readRuns asks. -/
theorem pen_new (W : World) (N : Nat) (s : ByteArray) (i : Nat) (x y : Int) (hN : W.heap.size = N + 2) (ha : At W (N + 1) s 2 i) (hx : -2000000000000000001 ≤ x ∧ x ≤ 2000000000000000001) (hy : -2000000000000000001 ≤ y ∧ y ≤ 2000000000000000001) :
    At ((W.alloc (.cells #[.int .i64 x, .int .i64 y] 53)).alloc (.cells #[.int .i64 x, .int .i64 y, .int .i64 x, .int .i64 y, .slice none 0 0] 80)) (N + 1) s 2 i ∧
    PenOf ((W.alloc (.cells #[.int .i64 x, .int .i64 y] 53)).alloc (.cells #[.int .i64 x, .int .i64 y, .int .i64 x, .int .i64 y, .slice none 0 0] 80)) (N + 3) (N + 4) x y [] := by
  obtain ⟨W1, hW1⟩ : ∃ W1, W.alloc (.cells #[.int .i64 x, .int .i64 y] 53) = W1 := ⟨_, rfl⟩
  have hz : W1.heap.size = N + 3 := by rw [← hW1]; simp [hN]
  rw [hW1]
  have hb : Below (N + 2) W (W1.alloc (.cells #[.int .i64 x, .int .i64 y, .int .i64 x, .int .i64 y, .slice none 0 0] 80)) := by
    rw [← hW1]; exact ((Below.refl _ W).alloc (by omega) _).alloc (by simp [hN]) _
  refine ⟨⟨(hb.cell (p := ⟨N + 1, 0, none⟩) (by simp)).trans ha.c0, (hb.cell (p := ⟨N + 1, 1, none⟩) (by simp)).trans ha.c1, (hb.cell (p := ⟨N + 1, 2, none⟩) (by simp)).trans ha.c2, (hb.frozen (p := ⟨N + 1, 1, none⟩) (by simp)).trans ha.fz⟩, ?_⟩
  refine ⟨?_, by simp [penRun]; omega, by simp [penRun]; omega, by simp [penRun]; omega, by simp [penRun]; omega, hx.1, hx.2, by simp [penRun]⟩
  rw [← hz]
  refine ⟨by simp, by simp, by simp [penRun], by simp [penRun], ⟨.slice none 0 0, by simp, ?_⟩, fun j => by simp, by omega, by simp [hz]⟩
  exact World.ownsRow_nil _ _ _ _

set_option maxHeartbeats 800000 in
theorem readForm_runs (s : ByteArray) (w : World) (hs : s.size ≤ 1500) (x y : Int) (j k q : Nat) (h1 : numTok s (bl s 0) = some (x, j)) (h2 : ¬ bl s j = j) (h3 : numTok s (bl s j) = some (y, k)) (h4 : runsAt s (bl s k) = .inl q) :
    Calls Tryd.prog 24 #[.string s] w (FormBad w q) := by
  have hnot : ∀ (x : Bool) (w : World), (Op.unary .not (.bool x)).run Tryd.prog w = .ok (.bool (!x)) w := fun _ _ => rfl
  have hb := hdr w s
  have ha := hdrAt w s
  have l0 := bl_le s 0 (Nat.zero_le _)
  have l1 := numTok_le l0.2 h1
  have l2 := bl_le s j l1.2
  have l3 := numTok_le l2.2 h3
  have hT := fun w2 (a2 : At w2 (w.heap.size + 1) s 2 j) => takeBlanks_any (w.heap.size + 1) s 2 j w2 a2 l1.2 hs
  have hlt : j < bl s j := by omega
  simp only [hlt, decide_true] at hT
  have hR := fun W A P => readRuns_any (w.heap.size + 1) (w.heap.size + 3) (w.heap.size + 4) s 2 k (capP x) (capP y) W A l3.2 hs P (by omega) (by omega)
  simp only [h4] at hR
  go_enter Tryd.func24, Tryd.ntmps24
  go_wp2_with (first
    | (go_at_call 36; refine (takeBlanks_any (w.heap.size + 1) s 2 0 _ ha (Nat.zero_le _) hs).mono ?_; rintro e w1 ⟨rfl, a1, n1⟩; clear ha)
    | (go_at_call 37; refine (readNumber_some (w.heap.size + 1) s 2 _ _ a1 l0.2 hs x j h1).mono ?_; rintro e w2 ⟨rfl, a2, n2⟩; clear a1)
    | (go_at_call 36; refine (hT _ a2).mono ?_; rintro e w3 ⟨rfl, a3, n3⟩; clear a2)
    | (go_at_call 37; refine (readNumber_some (w.heap.size + 1) s 2 _ _ a3 l2.2 hs y k h3).mono ?_; rintro e w4 ⟨rfl, a4, n4⟩; clear a3; have z4 : w4.heap.size = w.heap.size + 2 := by have := n1.size; have := n2.size; have := n3.size; have := n4.size; simp at *; omega)
    | (go_at_call 39; have pn := pen_new w4 w.heap.size s k (capP x) (capP y) z4 a4 (capP_bd x) (capP_bd y); refine (hR _ pn.1 pn.2).mono ?_; rintro e w5 ⟨two, rfl⟩))
  refine ⟨rfl, rfl, ?_⟩
  have b4 : Below w.heap.size w w4 := hb.trans ((((n1.trans n2).trans n3).trans n4).below (by omega))
  exact ((b4.alloc (by omega) _).alloc (by simp; omega) _).trans (two.below (by omega) (by omega) (by omega))

set_option maxHeartbeats 800000 in
theorem readForm_end (s : ByteArray) (w : World) (hs : s.size ≤ 1500) (x y : Int) (j k q : Nat) (l : List (Nat × Int)) (h1 : numTok s (bl s 0) = some (x, j)) (h2 : ¬ bl s j = j) (h3 : numTok s (bl s j) = some (y, k)) (h4 : runsAt s (bl s k) = .inr (l, q)) (h5 : bl s q < s.size) :
    Calls Tryd.prog 24 #[.string s] w (FormBad w (bl s q)) := by
  have hnot : ∀ (x : Bool) (w : World), (Op.unary .not (.bool x)).run Tryd.prog w = .ok (.bool (!x)) w := fun _ _ => rfl
  have hb := hdr w s
  have ha := hdrAt w s
  have l0 := bl_le s 0 (Nat.zero_le _)
  have l1 := numTok_le l0.2 h1
  have l2 := bl_le s j l1.2
  have l3 := numTok_le l2.2 h3
  have hT := fun w2 (a2 : At w2 (w.heap.size + 1) s 2 j) => takeBlanks_any (w.heap.size + 1) s 2 j w2 a2 l1.2 hs
  have hlt : j < bl s j := by omega
  simp only [hlt, decide_true] at hT
  have hR := fun W A P => readRuns_any (w.heap.size + 1) (w.heap.size + 3) (w.heap.size + 4) s 2 k (capP x) (capP y) W A l3.2 hs P (by omega) (by omega)
  simp only [h4] at hR
  go_enter Tryd.func24, Tryd.ntmps24
  go_wp2_with (first
    | (go_at_call 36; refine (takeBlanks_any (w.heap.size + 1) s 2 0 _ ha (Nat.zero_le _) hs).mono ?_; rintro e w1 ⟨rfl, a1, n1⟩; clear ha)
    | (go_at_call 37; refine (readNumber_some (w.heap.size + 1) s 2 _ _ a1 l0.2 hs x j h1).mono ?_; rintro e w2 ⟨rfl, a2, n2⟩; clear a1)
    | (go_at_call 36; refine (hT _ a2).mono ?_; rintro e w3 ⟨rfl, a3, n3⟩; clear a2)
    | (go_at_call 37; refine (readNumber_some (w.heap.size + 1) s 2 _ _ a3 l2.2 hs y k h3).mono ?_; rintro e w4 ⟨rfl, a4, n4⟩; clear a3; have z4 : w4.heap.size = w.heap.size + 2 := by have := n1.size; have := n2.size; have := n3.size; have := n4.size; simp at *; omega)
    | (go_at_call 39; have pn := pen_new w4 w.heap.size s k (capP x) (capP y) z4 a4 (capP_bd x) (capP_bd y); refine (hR _ pn.1 pn.2).mono ?_; rintro e w5 ⟨two, rfl, a5, l5, pen5⟩; clear a4)
    | (go_at_call 36; refine (takeBlanks_any (w.heap.size + 1) s 2 q _ a5 l5 hs).mono ?_; rintro e w6 ⟨rfl, a6, n6⟩)
    | (go_at_call 40; refine (expectEnd_miss (w.heap.size + 1) s 2 _ _ a6 h5 hs).mono ?_; rintro e w7 ⟨rfl, m7, rfl⟩))
  refine ⟨rfl, rfl, ?_⟩
  have b4 : Below w.heap.size w w4 := hb.trans ((((n1.trans n2).trans n3).trans n4).below (by omega))
  exact (((b4.alloc (by omega) _).alloc (by simp; omega) _).trans (two.below (by omega) (by omega) (by omega))).trans ((n6.drewN m7).below (by omega))

theorem ownsRow_mono {w : World} {B C : Nat} {e : TypeId} {m : Nat} {v : Value} {n : Nat} {xs : List Value} (h : w.ownsRow B e m v n xs) (hC : C ≤ B) : w.ownsRow C e m v n xs := by
  obtain ⟨h1, h2⟩ := h
  refine ⟨h1, ?_⟩
  rcases h2 with h2 | ⟨g, cap, cur, hv, hg, r⟩
  · exact .inl h2
  · exact .inr ⟨g, cap, cur, hv, by omega, r⟩

/-- The form is right. -/
def FormOk (w : World) (x y : Int) (l : List (Nat × Int)) (e : Ending) (w' : World) : Prop :=
  ∃ v, e = .returned (.tuple #[.agg #[.int .i64 x, .int .i64 y], v]) ∧ w'.ownsRow w.heap.size 61 3 v (penRun x y l).2.2.length (flat (penRun x y l).2.2) ∧ Below w.heap.size w w'

theorem form_cells {w w1 w4 w5 w6 : World} {s : ByteArray} {x y : Int} (m : Nat) (n1 : Near (w.heap.size + 1) ((w.alloc (.cells #[.int .i64 0, .int .i64 0] 53)).alloc (.cells #[.string s, .int .i64 0, .int .i64 2] 78)) w4) (z4 : w4.heap.size = w.heap.size + 2)
    (two : Two (w.heap.size + 1) (w.heap.size + 3) (w.heap.size + 4) ((w4.alloc (.cells #[.int .i64 x, .int .i64 y] 53)).alloc (.cells #[.int .i64 x, .int .i64 y, .int .i64 x, .int .i64 y, .slice none 0 0] 80)) w5) (n6 : Near (w.heap.size + 1) w5 w6) :
    w6.cell? ⟨w.heap.size + 2, 0, none⟩ = some (.int .i64 x) ∧ w6.cell? ⟨w.heap.size + 2, 1, none⟩ = some (.int .i64 y) ∧ w6.cell? ⟨w.heap.size, 0, none⟩ = some (.int .i64 0) ∧ w6.cell? ⟨w.heap.size, 1, none⟩ = some (.int .i64 0) ∧ w6.frozen? ⟨w.heap.size, 0, none⟩ = false ∧ w6.frozen? ⟨w.heap.size, 1, none⟩ = false := by
  have hblk : ∀ k, k < w.heap.size + 4 → k ≠ w.heap.size + 1 → k ≠ w.heap.size + 3 → w6.heap[k]? = ((w4.alloc (.cells #[.int .i64 x, .int .i64 y] 53)).alloc (.cells #[.int .i64 x, .int .i64 y, .int .i64 x, .int .i64 y, .slice none 0 0] 80)).heap[k]? :=
    fun k h1 h2 h3 => (n6.block k h2).trans (two.block k h1 h2 h3)
  have h2 : w6.heap[w.heap.size + 2]? = some (.cells #[.int .i64 x, .int .i64 y] 53) := by
    rw [hblk _ (by omega) (by omega) (by omega), Below.heap_alloc _ _ _ (by simp; omega), ← z4]
    show (w4.heap.push _)[w4.heap.size]? = _
    simp
  have h0 : w6.heap[w.heap.size]? = some (.cells #[.int .i64 0, .int .i64 0] 53) := by
    rw [hblk _ (by omega) (by omega) (by omega), Below.heap_alloc _ _ _ (by simp; omega), Below.heap_alloc _ _ _ (by omega), n1.block _ (by omega), Below.heap_alloc _ _ _ (by simp)]
    show (w.heap.push _)[w.heap.size]? = _
    simp
  refine ⟨?_, ?_, ?_, ?_, ?_, ?_⟩ <;> simp [World.cell?, World.frozen?, h2, h0]

set_option maxHeartbeats 800000 in
theorem readForm_ok (s : ByteArray) (w : World) (hs : s.size ≤ 1500) (x y : Int) (j k q : Nat) (l : List (Nat × Int)) (h1 : numTok s (bl s 0) = some (x, j)) (h2 : ¬ bl s j = j) (h3 : numTok s (bl s j) = some (y, k)) (h4 : runsAt s (bl s k) = .inr (l, q)) (h5 : ¬ bl s q < s.size) :
    Calls Tryd.prog 24 #[.string s] w (FormOk w (capP x) (capP y) l) := by
  have hnot : ∀ (x : Bool) (w : World), (Op.unary .not (.bool x)).run Tryd.prog w = .ok (.bool (!x)) w := fun _ _ => rfl
  have hb := hdr w s
  have ha := hdrAt w s
  have l0 := bl_le s 0 (Nat.zero_le _)
  have l1 := numTok_le l0.2 h1
  have l2 := bl_le s j l1.2
  have l3 := numTok_le l2.2 h3
  have hT := fun w2 (a2 : At w2 (w.heap.size + 1) s 2 j) => takeBlanks_any (w.heap.size + 1) s 2 j w2 a2 l1.2 hs
  have hlt : j < bl s j := by omega
  simp only [hlt, decide_true] at hT
  have hR := fun W A P => readRuns_any (w.heap.size + 1) (w.heap.size + 3) (w.heap.size + 4) s 2 k (capP x) (capP y) W A l3.2 hs P (by omega) (by omega)
  simp only [h4] at hR
  have l6 := bl_ge s q
  go_enter Tryd.func24, Tryd.ntmps24
  go_wp2_with (first
    | (go_at_call 36; refine (takeBlanks_any (w.heap.size + 1) s 2 0 _ ha (Nat.zero_le _) hs).mono ?_; rintro e w1 ⟨rfl, a1, n1⟩; clear ha)
    | (go_at_call 37; refine (readNumber_some (w.heap.size + 1) s 2 _ _ a1 l0.2 hs x j h1).mono ?_; rintro e w2 ⟨rfl, a2, n2⟩; clear a1)
    | (go_at_call 36; refine (hT _ a2).mono ?_; rintro e w3 ⟨rfl, a3, n3⟩; clear a2)
    | (go_at_call 37; refine (readNumber_some (w.heap.size + 1) s 2 _ _ a3 l2.2 hs y k h3).mono ?_; rintro e w4 ⟨rfl, a4, n4⟩; clear a3; have z4 : w4.heap.size = w.heap.size + 2 := by have := n1.size; have := n2.size; have := n3.size; have := n4.size; simp at *; omega)
    | (go_at_call 39; have pn := pen_new w4 w.heap.size s k (capP x) (capP y) z4 a4 (capP_bd x) (capP_bd y); refine (hR _ pn.1 pn.2).mono ?_; rintro e w5 ⟨two, rfl, a5, l5, pen5⟩; clear a4)
    | (go_at_call 36; have l7 := bl_le s q l5; refine (takeBlanks_any (w.heap.size + 1) s 2 q _ a5 l5 hs).mono ?_; rintro e w6 ⟨rfl, a6, n6⟩; clear a5)
    | (go_at_call 40; refine (expectEnd_hit (w.heap.size + 1) s 2 _ _ a6 (by omega) hs).mono ?_; rintro e w7 ⟨rfl, m7, rfl⟩; obtain ⟨f0, f1, f2, f3, f4, f5⟩ := form_cells (w1 := w1) m7 (((n1.trans n2).trans n3).trans n4) z4 two n6; have pen6 := pen5.near n6 (by omega) (by omega); obtain ⟨v, c4, own⟩ := pen6.at_.c4))
  go_region
  go_wp2
  have g0 : ((w6.drewN (m7 + 1)).setCell ⟨w.heap.size, 0, none⟩ (.int .i64 (capP x))).cell? ⟨w.heap.size, 0, none⟩ = some (.int .i64 (capP x)) := World.cell?_setCell_same _ _ _ f2
  have g1 : ((w6.drewN (m7 + 1)).setCell ⟨w.heap.size, 0, none⟩ (.int .i64 (capP x))).cell? ⟨w.heap.size, 1, none⟩ = some (.int .i64 0) := by rw [World.cell?_setCell_other _ _ _ _ (by simp)]; exact f3
  have e1 : (((w6.drewN (m7 + 1)).setCell ⟨w.heap.size, 0, none⟩ (.int .i64 (capP x))).setCell ⟨w.heap.size, 1, none⟩ (.int .i64 (capP y))).cell? ⟨w.heap.size, 1, none⟩ = some (.int .i64 (capP y)) :=
    World.cell?_setCell_same _ _ _ g1
  refine bodyPost_ret (v := .tuple #[.agg #[.int .i64 (capP x), .int .i64 (capP y)], v]) (by simp [results, Tryd.results24, go_sem, g0, e1]) rfl ⟨v, rfl, ?_, ?_⟩
  · exact ownsRow_mono (ownsRow_setCell_below (ownsRow_setCell_below (w := w6.drewN (m7 + 1)) own (a := ⟨w.heap.size, 0, none⟩) (by simp) _) (a := ⟨w.heap.size, 1, none⟩) (by simp) _) (by omega)
  · have b4 : Below w.heap.size w w4 := hb.trans ((((n1.trans n2).trans n3).trans n4).below (by omega))
    have b6 : Below w.heap.size w w6 := (((b4.alloc (by omega) _).alloc (by simp; omega) _).trans (two.below (by omega) (by omega) (by omega))).trans (n6.below (by omega))
    exact ((below_drewN b6 (m7 + 1)).setCell (p := ⟨w.heap.size, 0, none⟩) (Nat.le_refl _) _).setCell (p := ⟨w.heap.size, 1, none⟩) (Nat.le_refl _) _

/-- The form of the whole text. -/
def FormOut (s : ByteArray) (w : World) (e : Ending) (w' : World) : Prop :=
  match parse s with
  | .inl i => FormBad w i e w'
  | .inr (x, y, l) => FormOk w (capP x) (capP y) l e w'

theorem formOut_bad {s : ByteArray} {i : Nat} (w : World) (h : parse s = .inl i) : FormOut s w = FormBad w i := by
  funext e w'; unfold FormOut; rw [h]
theorem formOut_ok {s : ByteArray} {x y : Int} {l : List (Nat × Int)} (w : World) (h : parse s = .inr (x, y, l)) : FormOut s w = FormOk w (capP x) (capP y) l := by
  funext e w'; unfold FormOut; rw [h]

theorem readForm_any (s : ByteArray) (w : World) (hs : s.size ≤ 1500) : Calls Tryd.prog 24 #[.string s] w (FormOut s w) := by
  cases h1 : numTok s (bl s 0) with
  | none => rw [formOut_bad w (i := bl s 0) (by simp [parse, h1])]; exact readForm_x s w hs h1
  | some p =>
    obtain ⟨x, j⟩ := p
    by_cases h2 : bl s j = j
    · rw [formOut_bad w (i := j) (by simp [parse, h1, h2])]; exact readForm_gap s w hs x j h1 h2
    · cases h3 : numTok s (bl s j) with
      | none => rw [formOut_bad w (i := bl s j) (by simp [parse, h1, h2, h3])]; exact readForm_y s w hs x j h1 h2 h3
      | some p =>
        obtain ⟨y, k⟩ := p
        cases h4 : runsAt s (bl s k) with
        | inl q => rw [formOut_bad w (i := q) (by simp [parse, h1, h2, h3, h4])]; exact readForm_runs s w hs x y j k q h1 h2 h3 h4
        | inr p =>
          obtain ⟨l, q⟩ := p
          by_cases h5 : bl s q < s.size
          · rw [formOut_bad w (i := bl s q) (by simp [parse, h1, h2, h3, h4, h5])]; exact readForm_end s w hs x y j k q l h1 h2 h3 h4 h5
          · rw [formOut_ok w (x := x) (y := y) (l := l) (by simp [parse, h1, h2, h3, h4, h5])]; exact readForm_ok s w hs x y j k q l h1 h2 h3 h4 h5

end Go.Proofs.YtiohpcnnpmnjhaaDoor
