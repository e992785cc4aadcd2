import Derived.Test.YtiohpcnnpmnjhaaReadRunsM
namespace Go.Proofs.Ytiohpcnnpmnjhaa
open Go.RowKit
set_option linter.unusedVariables false

theorem At.new (w : World) (s : ByteArray) (k : Int) : At (w.alloc (.cells #[.string s, .int .i64 0, .int .i64 k] 61)) w.heap.size s k 0 :=
  ⟨by simp, by simp, by simp, by simp⟩

theorem capP_bd (z : Int) : -2000000000000000001 ≤ capP z ∧ capP z ≤ 2000000000000000001 := by unfold capP MC; split <;> (try split) <;> omega

/-- The form is refused. -/
def FormBad (w : World) (i : Nat) (e : Ending) (w' : World) : Prop := e = .panicked (refusal 2 i) ∧ Below w.heap.size w w'

theorem hdr (w : World) (s : ByteArray) : Below w.heap.size w ((w.alloc (.cells #[.int .i64 0, .int .i64 0] 99)).alloc (.cells #[.string s, .int .i64 0, .int .i64 2] 61)) :=
  ((Below.refl _ _).alloc (Nat.le_refl _) _).alloc (by simp) _
theorem hdrAt (w : World) (s : ByteArray) : At ((w.alloc (.cells #[.int .i64 0, .int .i64 0] 99)).alloc (.cells #[.string s, .int .i64 0, .int .i64 2] 61)) (w.heap.size + 1) s 2 0 := by
  have := At.new (w.alloc (.cells #[.int .i64 0, .int .i64 0] 99)) s 2
  simpa using this

set_option maxHeartbeats 800000 in
theorem readForm_x (s : ByteArray) (w : World) (hs : s.size ≤ 1500) (h1 : numTok s (bl s 0) = none) :
    Calls Try.prog 43 #[.string s] w (FormBad w (bl s 0)) := by
  have hb := hdr w s
  have ha := hdrAt w s
  have l0 := bl_le s 0 (Nat.zero_le _)
  go_enter Try.func43, Try.ntmps43
  go_wp2_with (first
    | (go_at_call 56; refine (takeBlanks_any (w.heap.size + 1) s 2 0 _ ha (Nat.zero_le _) hs).mono ?_; rintro e w1 ⟨rfl, a1, n1⟩)
    | (go_at_call 57; refine (readNumber_none (w.heap.size + 1) s 2 _ _ a1 l0.2 hs h1).mono ?_; rintro e w2 ⟨rfl, n2⟩))
  exact ⟨rfl, rfl, hb.trans ((n1.trans n2).below (by omega))⟩

set_option maxHeartbeats 800000 in
theorem readForm_gap (s : ByteArray) (w : World) (hs : s.size ≤ 1500) (x : Int) (j : Nat) (h1 : numTok s (bl s 0) = some (x, j)) (h2 : bl s j = j) :
    Calls Try.prog 43 #[.string s] w (FormBad w j) := by
  have hnot : ∀ (x : Bool) (w : World), (Op.unary .not (.bool x)).run Try.prog w = .ok (.bool (!x)) w := fun _ _ => rfl
  have hb := hdr w s
  have ha := hdrAt w s
  have l0 := bl_le s 0 (Nat.zero_le _)
  have l1 := numTok_le l0.2 h1
  have hT := fun w2 (a2 : At w2 (w.heap.size + 1) s 2 j) => takeBlanks_any (w.heap.size + 1) s 2 j w2 a2 l1.2 hs
  simp only [h2, Nat.lt_irrefl, decide_false] at hT
  go_enter Try.func43, Try.ntmps43
  go_wp2_with (first
    | (go_at_call 56; refine (takeBlanks_any (w.heap.size + 1) s 2 0 _ ha (Nat.zero_le _) hs).mono ?_; rintro e w1 ⟨rfl, a1, n1⟩; clear ha)
    | (go_at_call 57; refine (readNumber_some (w.heap.size + 1) s 2 _ _ a1 l0.2 hs x j h1).mono ?_; rintro e w2 ⟨rfl, a2, n2⟩)
    | (go_at_call 56; refine (hT _ a2).mono ?_; rintro e w3 ⟨rfl, a3, n3⟩)
    | (go_at_call 30; refine (refuse_any (w.heap.size + 1) s 2 j _ a3).mono ?_; rintro e w4 ⟨rfl, m4, rfl⟩))
  exact ⟨rfl, rfl, hb.trans ((((n1.trans n2).trans n3).drewN m4).below (by omega))⟩

set_option maxHeartbeats 800000 in
theorem readForm_y (s : ByteArray) (w : World) (hs : s.size ≤ 1500) (x : Int) (j : Nat) (h1 : numTok s (bl s 0) = some (x, j)) (h2 : ¬ bl s j = j) (h3 : numTok s (bl s j) = none) :
    Calls Try.prog 43 #[.string s] w (FormBad w (bl s j)) := by
  have hnot : ∀ (x : Bool) (w : World), (Op.unary .not (.bool x)).run Try.prog w = .ok (.bool (!x)) w := fun _ _ => rfl
  have hb := hdr w s
  have ha := hdrAt w s
  have l0 := bl_le s 0 (Nat.zero_le _)
  have l1 := numTok_le l0.2 h1
  have l2 := bl_le s j l1.2
  have hT := fun w2 (a2 : At w2 (w.heap.size + 1) s 2 j) => takeBlanks_any (w.heap.size + 1) s 2 j w2 a2 l1.2 hs
  have hlt : j < bl s j := by omega
  simp only [hlt, decide_true] at hT
  go_enter Try.func43, Try.ntmps43
  go_wp2_with (first
    | (go_at_call 56; refine (takeBlanks_any (w.heap.size + 1) s 2 0 _ ha (Nat.zero_le _) hs).mono ?_; rintro e w1 ⟨rfl, a1, n1⟩; clear ha)
    | (go_at_call 57; refine (readNumber_some (w.heap.size + 1) s 2 _ _ a1 l0.2 hs x j h1).mono ?_; rintro e w2 ⟨rfl, a2, n2⟩; clear a1)
    | (go_at_call 56; refine (hT _ a2).mono ?_; rintro e w3 ⟨rfl, a3, n3⟩)
    | (go_at_call 57; refine (readNumber_none (w.heap.size + 1) s 2 _ _ a3 l2.2 hs h3).mono ?_; rintro e w4 ⟨rfl, n4⟩))
  exact ⟨rfl, rfl, hb.trans ((((n1.trans n2).trans n3).trans n4).below (by omega))⟩

/-- The start's cell and the pen, laid: what readRuns asks. -/
theorem pen_new (W : World) (N : Nat) (s : ByteArray) (i : Nat) (x y : Int) (hN : W.heap.size = N + 2) (ha : At W (N + 1) s 2 i) (hx : -2000000000000000001 ≤ x ∧ x ≤ 2000000000000000001) (hy : -2000000000000000001 ≤ y ∧ y ≤ 2000000000000000001) :
    At ((W.alloc (.cells #[.int .i64 x, .int .i64 y] 99)).alloc (.cells #[.int .i64 x, .int .i64 y, .int .i64 x, .int .i64 y, .slice none 0 0] 120)) (N + 1) s 2 i ∧
    PenOf ((W.alloc (.cells #[.int .i64 x, .int .i64 y] 99)).alloc (.cells #[.int .i64 x, .int .i64 y, .int .i64 x, .int .i64 y, .slice none 0 0] 120)) (N + 3) (N + 4) x y [] := by
  obtain ⟨W1, hW1⟩ : ∃ W1, W.alloc (.cells #[.int .i64 x, .int .i64 y] 99) = W1 := ⟨_, rfl⟩
  have hz : W1.heap.size = N + 3 := by rw [← hW1]; simp [hN]
  rw [hW1]
  have hb : Below (N + 2) W (W1.alloc (.cells #[.int .i64 x, .int .i64 y, .int .i64 x, .int .i64 y, .slice none 0 0] 120)) := by
    rw [← hW1]; exact ((Below.refl _ W).alloc (by omega) _).alloc (by simp [hN]) _
  refine ⟨⟨(hb.cell (p := ⟨N + 1, 0, none⟩) (by simp)).trans ha.c0, (hb.cell (p := ⟨N + 1, 1, none⟩) (by simp)).trans ha.c1, (hb.cell (p := ⟨N + 1, 2, none⟩) (by simp)).trans ha.c2, (hb.frozen (p := ⟨N + 1, 1, none⟩) (by simp)).trans ha.fz⟩, ?_⟩
  refine ⟨?_, by simp [penRun]; omega, by simp [penRun]; omega, by simp [penRun]; omega, by simp [penRun]; omega, hx.1, hx.2, by simp [penRun]⟩
  rw [← hz]
  refine ⟨by simp, by simp, by simp [penRun], by simp [penRun], ⟨.slice none 0 0, by simp, ?_⟩, fun j => by simp, by omega, by simp [hz]⟩
  exact World.ownsRow_nil _ _ _ _

set_option maxHeartbeats 800000 in
theorem readForm_runs (s : ByteArray) (w : World) (hs : s.size ≤ 1500) (x y : Int) (j k q : Nat) (h1 : numTok s (bl s 0) = some (x, j)) (h2 : ¬ bl s j = j) (h3 : numTok s (bl s j) = some (y, k)) (h4 : runsAt s (bl s k) = .inl q) :
    Calls Try.prog 43 #[.string s] w (FormBad w q) := by
  have hnot : ∀ (x : Bool) (w : World), (Op.unary .not (.bool x)).run Try.prog w = .ok (.bool (!x)) w := fun _ _ => rfl
  have hb := hdr w s
  have ha := hdrAt w s
  have l0 := bl_le s 0 (Nat.zero_le _)
  have l1 := numTok_le l0.2 h1
  have l2 := bl_le s j l1.2
  have l3 := numTok_le l2.2 h3
  have hT := fun w2 (a2 : At w2 (w.heap.size + 1) s 2 j) => takeBlanks_any (w.heap.size + 1) s 2 j w2 a2 l1.2 hs
  have hlt : j < bl s j := by omega
  simp only [hlt, decide_true] at hT
  have hR := fun W A P => readRuns_any (w.heap.size + 1) (w.heap.size + 3) (w.heap.size + 4) s 2 k (capP x) (capP y) W A l3.2 hs P (by omega) (by omega)
  simp only [h4] at hR
  go_enter Try.func43, Try.ntmps43
  go_wp2_with (first
    | (go_at_call 56; refine (takeBlanks_any (w.heap.size + 1) s 2 0 _ ha (Nat.zero_le _) hs).mono ?_; rintro e w1 ⟨rfl, a1, n1⟩; clear ha)
    | (go_at_call 57; refine (readNumber_some (w.heap.size + 1) s 2 _ _ a1 l0.2 hs x j h1).mono ?_; rintro e w2 ⟨rfl, a2, n2⟩; clear a1)
    | (go_at_call 56; refine (hT _ a2).mono ?_; rintro e w3 ⟨rfl, a3, n3⟩; clear a2)
    | (go_at_call 57; refine (readNumber_some (w.heap.size + 1) s 2 _ _ a3 l2.2 hs y k h3).mono ?_; rintro e w4 ⟨rfl, a4, n4⟩; clear a3; have z4 : w4.heap.size = w.heap.size + 2 := by have := n1.size; have := n2.size; have := n3.size; have := n4.size; simp at *; omega)
    | (go_at_call 58; have pn := pen_new w4 w.heap.size s k (capP x) (capP y) z4 a4 (capP_bd x) (capP_bd y); refine (hR _ pn.1 pn.2).mono ?_; rintro e w5 ⟨two, rfl⟩))
  refine ⟨rfl, rfl, ?_⟩
  have b4 : Below w.heap.size w w4 := hb.trans ((((n1.trans n2).trans n3).trans n4).below (by omega))
  exact ((b4.alloc (by omega) _).alloc (by simp; omega) _).trans (two.below (by omega) (by omega) (by omega))

set_option maxHeartbeats 800000 in
theorem readForm_end (s : ByteArray) (w : World) (hs : s.size ≤ 1500) (x y : Int) (j k q : Nat) (l : List (Nat × Int)) (h1 : numTok s (bl s 0) = some (x, j)) (h2 : ¬ bl s j = j) (h3 : numTok s (bl s j) = some (y, k)) (h4 : runsAt s (bl s k) = .inr (l, q)) (h5 : bl s q < s.size) :
    Calls Try.prog 43 #[.string s] w (FormBad w (bl s q)) := by
  have hnot : ∀ (x : Bool) (w : World), (Op.unary .not (.bool x)).run Try.prog w = .ok (.bool (!x)) w := fun _ _ => rfl
  have hb := hdr w s
  have ha := hdrAt w s
  have l0 := bl_le s 0 (Nat.zero_le _)
  have l1 := numTok_le l0.2 h1
  have l2 := bl_le s j l1.2
  have l3 := numTok_le l2.2 h3
  have hT := fun w2 (a2 : At w2 (w.heap.size + 1) s 2 j) => takeBlanks_any (w.heap.size + 1) s 2 j w2 a2 l1.2 hs
  have hlt : j < bl s j := by omega
  simp only [hlt, decide_true] at hT
  have hR := fun W A P => readRuns_any (w.heap.size + 1) (w.heap.size + 3) (w.heap.size + 4) s 2 k (capP x) (capP y) W A l3.2 hs P (by omega) (by omega)
  simp only [h4] at hR
  go_enter Try.func43, Try.ntmps43
  go_wp2_with (first
    | (go_at_call 56; refine (takeBlanks_any (w.heap.size + 1) s 2 0 _ ha (Nat.zero_le _) hs).mono ?_; rintro e w1 ⟨rfl, a1, n1⟩; clear ha)
    | (go_at_call 57; refine (readNumber_some (w.heap.size + 1) s 2 _ _ a1 l0.2 hs x j h1).mono ?_; rintro e w2 ⟨rfl, a2, n2⟩; clear a1)
    | (go_at_call 56; refine (hT _ a2).mono ?_; rintro e w3 ⟨rfl, a3, n3⟩; clear a2)
    | (go_at_call 57; refine (readNumber_some (w.heap.size + 1) s 2 _ _ a3 l2.2 hs y k h3).mono ?_; rintro e w4 ⟨rfl, a4, n4⟩; clear a3; have z4 : w4.heap.size = w.heap.size + 2 := by have := n1.size; have := n2.size; have := n3.size; have := n4.size; simp at *; omega)
    | (go_at_call 58; have pn := pen_new w4 w.heap.size s k (capP x) (capP y) z4 a4 (capP_bd x) (capP_bd y); refine (hR _ pn.1 pn.2).mono ?_; rintro e w5 ⟨two, rfl, a5, l5, pen5⟩; clear a4)
    | (go_at_call 56; refine (takeBlanks_any (w.heap.size + 1) s 2 q _ a5 l5 hs).mono ?_; rintro e w6 ⟨rfl, a6, n6⟩)
    | (go_at_call 23; refine (expectEnd_miss (w.heap.size + 1) s 2 _ _ a6 h5 hs).mono ?_; rintro e w7 ⟨rfl, m7, rfl⟩))
  refine ⟨rfl, rfl, ?_⟩
  have b4 : Below w.heap.size w w4 := hb.trans ((((n1.trans n2).trans n3).trans n4).below (by omega))
  exact (((b4.alloc (by omega) _).alloc (by simp; omega) _).trans (two.below (by omega) (by omega) (by omega))).trans ((n6.drewN m7).below (by omega))

theorem ownsRow_mono {w : World} {B C : Nat} {e : TypeId} {m : Nat} {v : Value} {n : Nat} {xs : List Value} (h : w.ownsRow B e m v n xs) (hC : C ≤ B) : w.ownsRow C e m v n xs := by
  obtain ⟨h1, h2⟩ := h
  refine ⟨h1, ?_⟩
  rcases h2 with h2 | ⟨g, cap, cur, hv, hg, r⟩
  · exact .inl h2
  · exact .inr ⟨g, cap, cur, hv, by omega, r⟩

/-- The form is right. -/
def FormOk (w : World) (x y : Int) (l : List (Nat × Int)) (e : Ending) (w' : World) : Prop :=
  ∃ v, e = .returned (.tuple #[.agg #[.int .i64 x, .int .i64 y], v]) ∧ w'.ownsRow w.heap.size 106 3 v (penRun x y l).2.2.length (flat (penRun x y l).2.2) ∧ Below w.heap.size w w'

theorem form_cells {w w1 w4 w5 w6 : World} {s : ByteArray} {x y : Int} (m : Nat) (n1 : Near (w.heap.size + 1) ((w.alloc (.cells #[.int .i64 0, .int .i64 0] 99)).alloc (.cells #[.string s, .int .i64 0, .int .i64 2] 61)) w4) (z4 : w4.heap.size = w.heap.size + 2)
    (two : Two (w.heap.size + 1) (w.heap.size + 3) (w.heap.size + 4) ((w4.alloc (.cells #[.int .i64 x, .int .i64 y] 99)).alloc (.cells #[.int .i64 x, .int .i64 y, .int .i64 x, .int .i64 y, .slice none 0 0] 120)) w5) (n6 : Near (w.heap.size + 1) w5 w6) :
    w6.cell? ⟨w.heap.size + 2, 0, none⟩ = some (.int .i64 x) ∧ w6.cell? ⟨w.heap.size + 2, 1, none⟩ = some (.int .i64 y) ∧ w6.cell? ⟨w.heap.size, 0, none⟩ = some (.int .i64 0) ∧ w6.cell? ⟨w.heap.size, 1, none⟩ = some (.int .i64 0) ∧ w6.frozen? ⟨w.heap.size, 0, none⟩ = false ∧ w6.frozen? ⟨w.heap.size, 1, none⟩ = false := by
  have hblk : ∀ k, k < w.heap.size + 4 → k ≠ w.heap.size + 1 → k ≠ w.heap.size + 3 → w6.heap[k]? = ((w4.alloc (.cells #[.int .i64 x, .int .i64 y] 99)).alloc (.cells #[.int .i64 x, .int .i64 y, .int .i64 x, .int .i64 y, .slice none 0 0] 120)).heap[k]? :=
    fun k h1 h2 h3 => (n6.block k h2).trans (two.block k h1 h2 h3)
  have h2 : w6.heap[w.heap.size + 2]? = some (.cells #[.int .i64 x, .int .i64 y] 99) := by
    rw [hblk _ (by omega) (by omega) (by omega), Below.heap_alloc _ _ _ (by simp; omega), ← z4]
    show (w4.heap.push _)[w4.heap.size]? = _
    simp
  have h0 : w6.heap[w.heap.size]? = some (.cells #[.int .i64 0, .int .i64 0] 99) := by
    rw [hblk _ (by omega) (by omega) (by omega), Below.heap_alloc _ _ _ (by simp; omega), Below.heap_alloc _ _ _ (by omega), n1.block _ (by omega), Below.heap_alloc _ _ _ (by simp)]
    show (w.heap.push _)[w.heap.size]? = _
    simp
  refine ⟨?_, ?_, ?_, ?_, ?_, ?_⟩ <;> simp [World.cell?, World.frozen?, h2, h0]

set_option maxHeartbeats 800000 in
theorem readForm_ok (s : ByteArray) (w : World) (hs : s.size ≤ 1500) (x y : Int) (j k q : Nat) (l : List (Nat × Int)) (h1 : numTok s (bl s 0) = some (x, j)) (h2 : ¬ bl s j = j) (h3 : numTok s (bl s j) = some (y, k)) (h4 : runsAt s (bl s k) = .inr (l, q)) (h5 : ¬ bl s q < s.size) :
    Calls Try.prog 43 #[.string s] w (FormOk w (capP x) (capP y) l) := by
  have hnot : ∀ (x : Bool) (w : World), (Op.unary .not (.bool x)).run Try.prog w = .ok (.bool (!x)) w := fun _ _ => rfl
  have hb := hdr w s
  have ha := hdrAt w s
  have l0 := bl_le s 0 (Nat.zero_le _)
  have l1 := numTok_le l0.2 h1
  have l2 := bl_le s j l1.2
  have l3 := numTok_le l2.2 h3
  have hT := fun w2 (a2 : At w2 (w.heap.size + 1) s 2 j) => takeBlanks_any (w.heap.size + 1) s 2 j w2 a2 l1.2 hs
  have hlt : j < bl s j := by omega
  simp only [hlt, decide_true] at hT
  have hR := fun W A P => readRuns_any (w.heap.size + 1) (w.heap.size + 3) (w.heap.size + 4) s 2 k (capP x) (capP y) W A l3.2 hs P (by omega) (by omega)
  simp only [h4] at hR
  have l6 := bl_ge s q
  go_enter Try.func43, Try.ntmps43
  go_wp2_with (first
    | (go_at_call 56; refine (takeBlanks_any (w.heap.size + 1) s 2 0 _ ha (Nat.zero_le _) hs).mono ?_; rintro e w1 ⟨rfl, a1, n1⟩; clear ha)
    | (go_at_call 57; refine (readNumber_some (w.heap.size + 1) s 2 _ _ a1 l0.2 hs x j h1).mono ?_; rintro e w2 ⟨rfl, a2, n2⟩; clear a1)
    | (go_at_call 56; refine (hT _ a2).mono ?_; rintro e w3 ⟨rfl, a3, n3⟩; clear a2)
    | (go_at_call 57; refine (readNumber_some (w.heap.size + 1) s 2 _ _ a3 l2.2 hs y k h3).mono ?_; rintro e w4 ⟨rfl, a4, n4⟩; clear a3; have z4 : w4.heap.size = w.heap.size + 2 := by have := n1.size; have := n2.size; have := n3.size; have := n4.size; simp at *; omega)
    | (go_at_call 58; have pn := pen_new w4 w.heap.size s k (capP x) (capP y) z4 a4 (capP_bd x) (capP_bd y); refine (hR _ pn.1 pn.2).mono ?_; rintro e w5 ⟨two, rfl, a5, l5, pen5⟩; clear a4)
    | (go_at_call 56; have l7 := bl_le s q l5; refine (takeBlanks_any (w.heap.size + 1) s 2 q _ a5 l5 hs).mono ?_; rintro e w6 ⟨rfl, a6, n6⟩; clear a5)
    | (go_at_call 23; refine (expectEnd_hit (w.heap.size + 1) s 2 _ _ a6 (by omega) hs).mono ?_; rintro e w7 ⟨rfl, m7, rfl⟩; obtain ⟨f0, f1, f2, f3, f4, f5⟩ := form_cells (w1 := w1) m7 (((n1.trans n2).trans n3).trans n4) z4 two n6; have pen6 := pen5.near n6 (by omega) (by omega); obtain ⟨v, c4, own⟩ := pen6.at_.c4))
  go_region
  go_wp2
  have g0 : ((w6.drewN (m7 + 1)).setCell ⟨w.heap.size, 0, none⟩ (.int .i64 (capP x))).cell? ⟨w.heap.size, 0, none⟩ = some (.int .i64 (capP x)) := World.cell?_setCell_same _ _ _ f2
  have g1 : ((w6.drewN (m7 + 1)).setCell ⟨w.heap.size, 0, none⟩ (.int .i64 (capP x))).cell? ⟨w.heap.size, 1, none⟩ = some (.int .i64 0) := by rw [World.cell?_setCell_other _ _ _ _ (by simp)]; exact f3
  have e1 : (((w6.drewN (m7 + 1)).setCell ⟨w.heap.size, 0, none⟩ (.int .i64 (capP x))).setCell ⟨w.heap.size, 1, none⟩ (.int .i64 (capP y))).cell? ⟨w.heap.size, 1, none⟩ = some (.int .i64 (capP y)) :=
    World.cell?_setCell_same _ _ _ g1
  refine bodyPost_ret (v := .tuple #[.agg #[.int .i64 (capP x), .int .i64 (capP y)], v]) (by simp [results, Try.results43, go_sem, g0, e1]) rfl ⟨v, rfl, ?_, ?_⟩
  · exact ownsRow_mono (ownsRow_setCell_below (ownsRow_setCell_below (w := w6.drewN (m7 + 1)) own (a := ⟨w.heap.size, 0, none⟩) (by simp) _) (a := ⟨w.heap.size, 1, none⟩) (by simp) _) (by omega)
  · have b4 : Below w.heap.size w w4 := hb.trans ((((n1.trans n2).trans n3).trans n4).below (by omega))
    have b6 : Below w.heap.size w w6 := (((b4.alloc (by omega) _).alloc (by simp; omega) _).trans (two.below (by omega) (by omega) (by omega))).trans (n6.below (by omega))
    exact ((below_drewN b6 (m7 + 1)).setCell (p := ⟨w.heap.size, 0, none⟩) (Nat.le_refl _) _).setCell (p := ⟨w.heap.size, 1, none⟩) (Nat.le_refl _) _

/-- The form of the whole text. -/
def FormOut (s : ByteArray) (w : World) (e : Ending) (w' : World) : Prop :=
  match parse s with
  | .inl i => FormBad w i e w'
  | .inr (x, y, l) => FormOk w (capP x) (capP y) l e w'

theorem formOut_bad {s : ByteArray} {i : Nat} (w : World) (h : parse s = .inl i) : FormOut s w = FormBad w i := by
  funext e w'; unfold FormOut; rw [h]
theorem formOut_ok {s : ByteArray} {x y : Int} {l : List (Nat × Int)} (w : World) (h : parse s = .inr (x, y, l)) : FormOut s w = FormOk w (capP x) (capP y) l := by
  funext e w'; unfold FormOut; rw [h]

theorem readForm_any (s : ByteArray) (w : World) (hs : s.size ≤ 1500) : Calls Try.prog 43 #[.string s] w (FormOut s w) := by
  cases h1 : numTok s (bl s 0) with
  | none => rw [formOut_bad w (i := bl s 0) (by simp [parse, h1])]; exact readForm_x s w hs h1
  | some p =>
    obtain ⟨x, j⟩ := p
    by_cases h2 : bl s j = j
    · rw [formOut_bad w (i := j) (by simp [parse, h1, h2])]; exact readForm_gap s w hs x j h1 h2
    · cases h3 : numTok s (bl s j) with
      | none => rw [formOut_bad w (i := bl s j) (by simp [parse, h1, h2, h3])]; exact readForm_y s w hs x j h1 h2 h3
      | some p =>
        obtain ⟨y, k⟩ := p
        cases h4 : runsAt s (bl s k) with
        | inl q => rw [formOut_bad w (i := q) (by simp [parse, h1, h2, h3, h4])]; exact readForm_runs s w hs x y j k q h1 h2 h3 h4
        | inr p =>
          obtain ⟨l, q⟩ := p
          by_cases h5 : bl s q < s.size
          · rw [formOut_bad w (i := bl s q) (by simp [parse, h1, h2, h3, h4, h5])]; exact readForm_end s w hs x y j k q l h1 h2 h3 h4 h5
          · rw [formOut_ok w (x := x) (y := y) (l := l) (by simp [parse, h1, h2, h3, h4, h5])]; exact readForm_ok s w hs x y j k q l h1 h2 h3 h4 h5

end Go.Proofs.Ytiohpcnnpmnjhaa

namespace Go.Proofs.Ytiohpcnnpmnjhaa
open Go.RowKit
set_option linter.unusedVariables false

/-- Too far out? -/
def farB (x y : Int) : Bool := decide (MC < x) || decide (MC < y) || decide (x < -MC) || decide (y < -MC)
/-- The span's first or last cell too far out? -/
def farS (s : Span) : Bool := farB s.1 s.2.1 || farB (s.1 + s.2.2 - 1) s.2.1

set_option maxHeartbeats 800000 in
theorem isFar_any (x y : Int) (w : World) :
    Calls Try.prog 44 #[.agg #[.int .i64 x, .int .i64 y]] w fun e w' => e = .returned (.bool (farB x y)) ∧ w' = w.alloc (.cells #[.int .i64 x, .int .i64 y] 99) := by
  by_cases h1 : y ≤ x
  · go_enter Try.func44, Try.ntmps44
    go_wp2
    all_goals
      go_ret
      exact ⟨ret_bool (by rw [Bool.eq_iff_iff]; simp [farB, MC]; omega), rfl⟩
  · go_enter Try.func44, Try.ntmps44
    go_wp2
    all_goals
      go_ret
      exact ⟨ret_bool (by rw [Bool.eq_iff_iff]; simp [farB, MC]; omega), rfl⟩

set_option maxHeartbeats 800000 in
theorem spanFar_any (x y n : Int) (w : World) (h1 : -3000000000000000000 ≤ x) (h2 : x ≤ 3000000000000000000) (h3 : 0 ≤ n) (h4 : n ≤ 9999) :
    Calls Try.prog 46 #[.agg #[.int .i64 x, .int .i64 y, .int .i64 n]] w fun e w' => e = .returned (.bool (farS (x, y, n))) ∧ Below w.heap.size w w' := by
  cases hf : farB x y with
  | true =>
    have hI := fun w => isFar_any x y w
    simp only [hf] at hI
    go_enter Try.func46, Try.ntmps46
    go_wp2_with (go_at_call 44; refine (hI _).mono ?_; rintro e w1 ⟨rfl, rfl⟩)
    go_ret
    exact ⟨ret_bool (by simp [farS, hf]), (((Below.refl _ _).alloc (Nat.le_refl _) _).alloc (by simp) _).alloc (by simp; omega) _⟩
  | false =>
    have hI := fun w => isFar_any x y w
    simp only [hf] at hI
    go_enter Try.func46, Try.ntmps46
    go_wp2_with (first
      | (go_at_call 44; refine (hI _).mono ?_; rintro e w1 ⟨rfl, rfl⟩; clear hI)
      | (go_at_call 44; refine (isFar_any (x + n - 1) y _).mono ?_; rintro e w2 ⟨rfl, rfl⟩))
    go_ret
    exact ⟨ret_bool (by simp [farS, hf]), ((((Below.refl _ _).alloc (Nat.le_refl _) _).alloc (by simp) _).alloc (by simp; omega) _).alloc (by simp; omega) _⟩

theorem flat_get : ∀ (sp : List Span) (k : Nat) (s : Span), sp[k]? = some s → (flat sp)[k * 3]? = some (.int .i64 s.1) ∧ (flat sp)[k * 3 + 1]? = some (.int .i64 s.2.1) ∧ (flat sp)[k * 3 + 2]? = some (.int .i64 s.2.2)
  | [], k, s, h => by simp at h
  | (x, y, n) :: r, 0, s, h => by simp at h; subst h; simp [flat]
  | (x, y, n) :: r, k + 1, s, h => by
    have := flat_get r k s (by simpa using h)
    simpa [flat, show (k + 1) * 3 = k * 3 + 1 + 1 + 1 by omega] using this

/-- The spans lie in block g. -/
structure SpansAt (w : World) (g : Nat) (sp : List Span) : Prop where
  at_ : ∀ j u, (flat sp)[j]? = some u → w.cell? ⟨g, j, none⟩ = some u

theorem SpansAt.below {w w' : World} {g B : Nat} {sp : List Span} (h : SpansAt w g sp) (hb : Below B w w') (hg : g < B) : SpansAt w' g sp :=
  ⟨fun j u hu => (hb.cell (p := ⟨g, j, none⟩) hg).trans (h.at_ j u hu)⟩
theorem SpansAt.get {w : World} {g : Nat} {sp : List Span} (h : SpansAt w g sp) (k : Nat) (s : Span) (hs : sp[k]? = some s) :
    w.cell? ⟨g, k * 3, none⟩ = some (.int .i64 s.1) ∧ w.cell? ⟨g, k * 3 + 1, none⟩ = some (.int .i64 s.2.1) ∧ w.cell? ⟨g, k * 3 + 2, none⟩ = some (.int .i64 s.2.2) := by
  obtain ⟨h1, h2, h3⟩ := flat_get sp k s hs
  exact ⟨h.at_ _ _ h1, h.at_ _ _ h2, h.at_ _ _ h3⟩

/-- The two makes of a list of spans. -/
theorem spans_cases {w : World} {B : Nat} {t : TypeId} {v : Value} {sp : List Span} (h : w.ownsRow B t 3 v sp.length (flat sp)) :
    (v = .slice none 0 0 ∧ sp = []) ∨ ∃ g cap, v = .slice (some ⟨g, 0, none⟩) sp.length cap ∧ SpansAt w g sp ∧ g < w.heap.size := by
  rcases h.2 with ⟨h1, h2⟩ | ⟨g, cap, cur, rfl, hg, hh, hn, hc, hz, ht⟩
  · exact .inl ⟨h1, List.eq_nil_of_length_eq_zero h2⟩
  · refine .inr ⟨g, cap, rfl, ⟨fun j u hu => ?_⟩, (Array.getElem?_eq_some_iff.1 hh).1⟩
    rw [← ht, List.getElem?_take] at hu
    split at hu
    · simpa [World.cell?, hh] using hu
    · cases hu

/-- What is known of a span's numbers. -/
def okSpan (s : Span) : Prop := -3000000000000000000 ≤ s.1 ∧ s.1 ≤ 3000000000000000000 ∧ 0 ≤ s.2.2 ∧ s.2.2 ≤ 9999

theorem any_take_succ {sp : List Span} {k : Nat} {s : Span} (h : sp[k]? = some s) : (sp.take (k + 1)).any farS = ((sp.take k).any farS || farS s) := by
  rw [List.take_add_one, h]; simp

set_option maxHeartbeats 800000 in
theorem indexFunc_row (g cap : Nat) (sp : List Span) (w : World) (h : SpansAt w g sp) (hg : g < w.heap.size) (hl : sp.length ≤ 1500) (hb : ∀ s ∈ sp, okSpan s) :
    Calls Try.prog 59 #[.slice (some ⟨g, 0, none⟩) sp.length cap, .func (.func 46) #[] #[]] w fun e w' => (∃ r : Int, e = .returned (.int .i64 r) ∧ decide (0 ≤ r) = sp.any farS) ∧ Below w.heap.size w w' := by
  go_enter Try.func59, Try.ntmps59
  go_wp2
  go_loopw [8] (fun i wr => ∃ k : Nat, k ≤ sp.length ∧ i = .int .i64 k ∧ Hid ((sp.take k).any farS = false) ∧ Below w.heap.size w wr) (fun i _ => sp.length - (intOf i).toNat)
  case atStart => exact ⟨0, Nat.zero_le _, rfl, by simp [Hid], Below.refl _ _⟩
  case round =>
    obtain ⟨k, hk, rfl, hr, hbw⟩ := hrel
    by_cases hlt : k < sp.length
    · obtain ⟨⟨x, y, n⟩, hs⟩ : ∃ s, sp[k]? = some s := ⟨sp[k], by simp [hlt]⟩
      obtain ⟨e0, e1, e2⟩ := (h.below hbw hg).get k _ hs
      obtain ⟨b1, b2, b3, b4⟩ := hb (x, y, n) (List.mem_of_getElem? hs)
      simp only at e0 e1 e2 b1 b2 b3 b4
      have hA := any_take_succ hs
      have hF := fun w => spanFar_any x y n w b1 b2 b3 b4
      have hm := List.mem_of_getElem? hs
      cases hf : farS (x, y, n) with
      | true =>
        have HA : Hid (sp.any farS = true) := List.any_eq_true.2 ⟨_, hm, hf⟩
        simp only [hf] at hF
        clear hA hs hm
        go_wp2_with (go_at_call 46; refine (hF _).mono ?_; rintro e w1 ⟨rfl, hb1⟩)
        go_ret
        exact ⟨⟨_, rfl, by rw [HA.out]; simp⟩, hbw.trans (hb1.mono hbw.size)⟩
      | false =>
        simp only [hf] at hF
        rw [hf, hr.out] at hA
        have HA : Hid ((sp.take (k + 1)).any farS = false) := hA
        clear hA hs hm
        go_wp2_with (go_at_call 46; refine (hF _).mono ?_; rintro e w1 ⟨rfl, hb1⟩)
        go_roundw
        case rel => exact ⟨k + 1, by omega, by go_num, HA.out, hbw.trans (hb1.mono hbw.size)⟩
        case measure => simp [intOf]; omega
    · have HA : Hid (sp.any farS = false) := by have := hr.out; rwa [List.take_of_length_le (by omega)] at this
      go_wp2
      go_ret
      exact ⟨⟨_, rfl, by rw [HA.out]; simp⟩, hbw⟩

set_option maxHeartbeats 800000 in
theorem indexFunc_nil (w : World) :
    Calls Try.prog 59 #[.slice none 0 0, .func (.func 46) #[] #[]] w fun e w' => e = .returned (.int .i64 (-1)) ∧ w' = w := by
  go_enter Try.func59, Try.ntmps59
  go_wp2
  refine wp_loop_rounds 1 ?_
  rw [rounds_succ]
  go_wp2
  go_ret
  exact ⟨rfl, rfl⟩

set_option maxHeartbeats 800000 in
theorem containsFunc_any (B : Nat) (v : Value) (sp : List Span) (w : World) (h : w.ownsRow B 106 3 v sp.length (flat sp)) (hl : sp.length ≤ 1500) (hb : ∀ s ∈ sp, okSpan s) :
    Calls Try.prog 45 #[v, .func (.func 46) #[] #[]] w fun e w' => e = .returned (.bool (sp.any farS)) ∧ Below w.heap.size w w' := by
  rcases spans_cases h with ⟨rfl, rfl⟩ | ⟨g, cap, rfl, hS, hg⟩
  · go_enter Try.func45, Try.ntmps45
    go_wp2_with (go_at_call 59; refine (indexFunc_nil _).mono ?_; rintro e w1 ⟨rfl, rfl⟩)
    go_ret
    exact ⟨rfl, Below.refl _ _⟩
  · go_enter Try.func45, Try.ntmps45
    go_wp2_with (go_at_call 59; refine (indexFunc_row g cap sp _ hS hg hl hb).mono ?_; rintro e w1 ⟨⟨r, rfl, hr⟩, hb1⟩)
    go_ret
    exact ⟨rfl, hb1⟩

/-- How many cells live. -/
def total (sp : List Span) : Int := (sp.map (·.2.2)).sum
theorem total_snoc (a : List Span) (s : Span) : total (a ++ [s]) = total a + s.2.2 := by simp [total]
theorem total_bd : ∀ (sp : List Span), (∀ s ∈ sp, okSpan s) → 0 ≤ total sp ∧ total sp ≤ 9999 * (sp.length : Int)
  | [], _ => by simp [total]
  | s :: r, h => by
    have h1 := total_bd r (fun x hx => h x (by simp [hx]))
    have h2 := h s (by simp)
    obtain ⟨_, _, h3, h4⟩ := h2
    simp [total] at h1 ⊢
    omega

set_option maxHeartbeats 800000 in
theorem countCells_row (g cap : Nat) (sp : List Span) (w : World) (h : SpansAt w g sp) (hg : g < w.heap.size) (hl : sp.length ≤ 1500) (hb : ∀ s ∈ sp, okSpan s) :
    Calls Try.prog 47 #[.slice (some ⟨g, 0, none⟩) sp.length cap] w fun e w' => e = .returned (.int .i64 (total sp)) ∧ Below w.heap.size w w' := by
  go_enter Try.func47, Try.ntmps47
  go_wp2
  go_loopw [3, 8] (fun t i wr => ∃ k : Nat, k ≤ sp.length ∧ i = .int .i64 k ∧ t = .int .i64 (total (sp.take k)) ∧ Below w.heap.size w wr) (fun _ i _ => sp.length - (intOf i).toNat)
  case atStart => exact ⟨0, Nat.zero_le _, rfl, rfl, Below.refl _ _⟩
  case round =>
    obtain ⟨k, hk, rfl, rfl, hbw⟩ := hrel
    by_cases hlt : k < sp.length
    · obtain ⟨⟨x, y, n⟩, hs⟩ : ∃ s, sp[k]? = some s := ⟨sp[k], by simp [hlt]⟩
      obtain ⟨e0, e1, e2⟩ := (h.below hbw hg).get k _ hs
      obtain ⟨b1, b2, b3, b4⟩ := hb (x, y, n) (List.mem_of_getElem? hs)
      simp only at e0 e1 e2 b1 b2 b3 b4
      have hT : total (sp.take (k + 1)) = total (sp.take k) + n := by rw [List.take_add_one, hs]; exact total_snoc _ _
      have hB := total_bd (sp.take k) (fun s hs => hb s (List.mem_of_mem_take hs))
      have hL : (sp.take k).length ≤ k := List.length_take_le _ _
      have hB2 : total (sp.take k) ≤ 15000000 := by omega
      have hB1 := hB.1
      have HT : Hid (total (sp.take (k + 1)) = total (sp.take k) + n) := hT
      clear hT hs hL hB
      go_wp2
      go_roundw
      case rel => exact ⟨k + 1, by omega, by go_num, by rw [HT.out], hbw.alloc hbw.size _⟩
      case measure => simp [intOf]; omega
    · have hk' : k = sp.length := by omega
      subst hk'
      go_wp2
      go_ret
      exact ⟨by simp, hbw⟩

set_option maxHeartbeats 800000 in
theorem countCells_any (B : Nat) (v : Value) (sp : List Span) (w : World) (h : w.ownsRow B 106 3 v sp.length (flat sp)) (hl : sp.length ≤ 1500) (hb : ∀ s ∈ sp, okSpan s) :
    Calls Try.prog 47 #[v] w fun e w' => e = .returned (.int .i64 (total sp)) ∧ Below w.heap.size w w' := by
  rcases spans_cases h with ⟨rfl, rfl⟩ | ⟨g, cap, rfl, hS, hg⟩
  · go_enter Try.func47, Try.ntmps47
    go_wp2
    refine wp_loop_rounds 1 ?_
    rw [rounds_succ]
    go_wp2
    go_ret
    exact ⟨rfl, Below.refl _ _⟩
  · exact countCells_row g cap sp w hS hg hl hb

end Go.Proofs.Ytiohpcnnpmnjhaa
