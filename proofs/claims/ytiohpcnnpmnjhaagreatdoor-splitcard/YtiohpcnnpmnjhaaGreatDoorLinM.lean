import Derived.Test.YtiohpcnnpmnjhaaGreatDoorSpans
import Derived.Test.YtiohpcnnpmnjhaaGreatDoorBlk
import Derived.Test.YtiohpcnnpmnjhaaGreatDoorArnM
import Derived.Test.YtiohpcnnpmnjhaaGreatDoorBotM
import Derived.Test.YtiohpcnnpmnjhaaGreatDoorFrmM
namespace Go.Proofs.YtiohpcnnpmnjhaaGreatDoor
open Go.RowKit Go.Shelf
set_option linter.unusedVariables false
attribute [local go_sem] Oper.semAt_some

/-- One span is written: where the pen is then, and the bytes. -/
def segGo (cx : Int) (st : (Int × Int) × List UInt8) (s : Span) : (Int × Int) × List UInt8 :=
  ((s.1 + s.2.2, s.2.1), st.2 ++ (if st.1.2 < s.2.1 then runB (s.2.1 - st.1.2).toNat 36 ++ runB (s.1 - cx).toNat 98 else runB (s.1 - st.1.1).toNat 98) ++ runB s.2.2.toNat 111)
def segRun (cx cy : Int) (l : List Span) : (Int × Int) × List UInt8 := l.foldl (segGo cx) ((cx, cy), [])
theorem segRun_snoc (cx cy : Int) (l : List Span) (s : Span) : segRun cx cy (l ++ [s]) = segGo cx (segRun cx cy l) s := by simp [segRun]
/-- The two numbers ahead. -/
def headB (cx cy : Int) : List UInt8 := Lib.itoa cx ++ [32] ++ Lib.itoa cy ++ [32]
/-- The program's plain text. -/
def plainB (C : List Cel) : List UInt8 := headB (cornP C).1 (cornP C).2 ++ (segRun (cornP C).1 (cornP C).2 (segs C)).2 ++ [33]

set_option maxHeartbeats 400000 in
theorem spans_any (a : Option Addr) (n c : Nat) (w : World) :
    Calls Tryz.prog 68 #[.slice a n c] w fun e w' => e = .returned (.func (.func 98) #[] #[.pointer (some ⟨w.heap.size, 0, none⟩)]) ∧ w' = w.alloc (.cells #[.slice a n c] 71) := by
  have hmf : ∀ (fn : Fn) (first cap : Array Value) (w : World), (Instr.makeFunc fn first cap).run Tryz.prog w = .ok (.func fn first cap) w := fun _ _ _ _ => rfl
  go_enter Tryz.func68, Tryz.ntmps68
  go_wp2
  go_ret
  exact ⟨rfl, rfl⟩

theorem buf_form {w : World} {B : Nat} {v : Value} {l : List UInt8} (h : Buf w B v l) (hl : 0 < l.length) : ∃ g cap, v = .slice (some ⟨g, 0, none⟩) l.length cap := by
  rcases h.2 with ⟨_, h0⟩ | ⟨g, cap, _, rfl, _⟩
  · omega
  · exact ⟨g, cap, rfl⟩


/-- Blocks of cells abide what turns other blocks alone. -/
theorem keepb {W W' : World} {row : Option Nat} {B N : Nat} {v : Value} {l : List UInt8} (h : Buf W N v l) (hg : W.grownBy W' row) (hr : ∀ r, row = some r → B ≤ r ∧ ∃ o : Obj, W.heap[r]? = some o ∧ o.isCells = false) : Buf W' N v l := by
  obtain ⟨h1, h2⟩ := h
  refine ⟨h1, ?_⟩
  rcases h2 with h2 | ⟨g, cap, cur, hv, hgb, hh, r⟩
  · exact .inl h2
  · exact .inr ⟨g, cap, cur, hv, hgb, keepc hh hg hr, r⟩

set_option maxRecDepth 100000 in
set_option maxHeartbeats 1000000 in
theorem spans1_nil (n : Nat) (l Bs vc : Nat) (a : Option Addr) {α : Type} (J : List α → World → Prop) (W : World) (hBs : W.cell? ⟨Bs, 0, none⟩ = some (.slice a 0 vc)) (h0 : J [] W) :
    CallsIn Fence.wide n Tryz.prog 98 #[.func (.yield l) #[] #[], .pointer (some ⟨Bs, 0, none⟩)] W fun e W' => (∃ v, e = .returned v) ∧ J [] W' := by
  refine callsIn_of_wp Tryz.func98 rfl trivial ?_ rfl
  simp only [Tryz.ntmps98, List.size_toArray, List.length_cons, List.length_nil, Nat.reduceAdd, Nat.reduceSub, Array.replicate_succ, Array.replicate_zero, List.push_toArray, List.append_toArray, List.nil_append, List.cons_append]
  gi_wp2
  gi_loopw [3] (fun i wr => i = .int .i64 0 ∧ wr = W) (fun _ _ => 0)
  case atStart => exact ⟨rfl, rfl⟩
  case round =>
    obtain ⟨rfl, rfl⟩ := hrel
    gi_wp2
    go_end0
    exact ⟨⟨_, rfl⟩, h0⟩

theorem spans_stops (X0 Y0 : Int) (a : Option Addr) (vc Bs n₀ : Nat) (C : List Cel) (w w0 : World) (own : w.ownsRow 0 113 2 (.slice a C.length vc) C.length (flatC C)) (hl : C.length ≤ 100) (hC : ∀ c ∈ C, inWin X0 Y0 c) (hX : -3000000000000000000 ≤ X0) (hX' : X0 ≤ 3000000000000000000)
    (hn : n₀ = w.heap.size) (hb : Below w.heap.size w w0) (hBs : w0.heap[Bs]? = some (.cells #[.slice a C.length vc] 71 (0, 0))) :
    SeqStopsK Fence.wide 4 Tryz.prog 98 #[.pointer (some ⟨Bs, 0, none⟩)] (encSeg (X0 := X0) (Y0 := Y0)) (KpB n₀ Bs) (fun xs => xs.map (·.1) = segs C) (fun _ => True) C.length w0 := fun l J Jx W hW hJ hJx hY h0 => by
  subst hn
  have hBs' : W.heap[Bs]? = some (.cells #[.slice a C.length vc] 71 (0, 0)) := (hW.block Bs (blk_lt hBs)).trans hBs
  rcases cells_cases own with ⟨hv, rfl⟩ | ⟨g, cap, hv, hS, hg⟩
  · exact (spans1_nil 4 l Bs vc a J W (cell_of hBs' 0) h0).mono fun e W' ⟨he, hj⟩ => ⟨he, .inl ⟨[], rfl, hj⟩⟩
  · cases hv
    have hc := (hS.below hb hg).below (hW.mono hb.size) hg
    refine (spans1_in 4 (by omega) l Bs w.heap.size g vc X0 Y0 C hC hX hX' hl hg J Jx W hJ hY (Nat.le_trans hb.size hW.size) hBs' hc h0).mono ?_
    rintro e W' ⟨he, ⟨xs, hx, hj⟩ | ⟨pre, hj⟩⟩
    · exact ⟨he, .inl ⟨xs, hx, hj⟩⟩
    · exact ⟨he, .inr ⟨pre, trivial, hj⟩⟩


set_option maxRecDepth 100000 in
set_option maxHeartbeats 800000 in
theorem appendRun_int (B : Nat) (v : Value) (l : List UInt8) (z : Int) (c : UInt8) (k : Int) (w : World) (hck : (c.toNat : Int) = k) (hb : Buf w B v l) (hB : B ≤ w.heap.size) (ht : Tab B w) (hl : l.length + 5 * z.toNat ≤ 100000000000000) :
    Calls Tryz.prog 69 #[v, .int .i64 z, .int .u8 k] w fun e w' => (∃ v', e = .returned v' ∧ Buf w' B v' (l ++ runB z.toNat c)) ∧ Kept B w w' := by
  subst hck
  by_cases h : 0 ≤ z
  · have := appendRun_nat B v l z.toNat c w hb hB ht hl
    rwa [Int.toNat_of_nonneg h] at this
  · have hz : z.toNat = 0 := by omega
    rw [hz, runB_zero, List.append_nil]
    have hn : ¬ 0 < z := by omega
    go_enter Tryz.func69, Tryz.ntmps69
    go_wp2
    go_loopg [0, 1] 0 (fun g vo vc wr => vc = .int .i64 z ∧ vo = v ∧ wr = w)
    case atStart => exact ⟨rfl, rfl, rfl⟩
    case round =>
      obtain ⟨rfl, rfl, rfl⟩ := hrel
      go_wp2
      go_ret
      exact ⟨⟨_, rfl, hb⟩, Kept.refl _ _⟩

/-- Where the pen is, and how long the line. -/
def segOk (X0 Y0 : Int) (k : Nat) (st : (Int × Int) × List UInt8) : Prop := X0 ≤ st.1.1 ∧ st.1.1 ≤ X0 + 20000100 ∧ Y0 ≤ st.1.2 ∧ st.1.2 ≤ Y0 + 20000000 ∧ st.2.length ≤ k * 400000000
theorem segOk_step {X0 Y0 cx cy : Int} (hc : inWin X0 Y0 (cx, cy)) {k : Nat} {st : (Int × Int) × List UInt8} (h : segOk X0 Y0 k st) {s : Span} (hs : okSeg X0 Y0 s) : segOk X0 Y0 (k + 1) (segGo cx st s) := by
  obtain ⟨⟨h1, h2, h3, h4⟩, h5, h6⟩ := hs
  obtain ⟨g1, g2, g3, g4, g5⟩ := h
  obtain ⟨k1, k2, k3, k4⟩ := hc
  simp only at *
  refine ⟨by simp only [segGo]; omega, by simp only [segGo]; omega, by simp only [segGo]; omega, by simp only [segGo]; omega, ?_⟩
  have l1 := runB_len (s.2.1 - st.1.2).toNat 36
  have l2 := runB_len (s.1 - cx).toNat 98
  have l3 := runB_len (s.1 - st.1.1).toNat 98
  have l4 := runB_len s.2.2.toNat 111
  simp only [segGo]
  split <;> simp only [List.length_append] <;> omega
theorem segOk_all {X0 Y0 cx cy : Int} (hc : inWin X0 Y0 (cx, cy)) : ∀ (l : List (Seg X0 Y0)) (k : Nat) (st : (Int × Int) × List UInt8), segOk X0 Y0 k st → segOk X0 Y0 (k + l.length) ((l.map (·.1)).foldl (segGo cx) st)
  | [], k, st, h => h
  | s :: l, k, st, h => by
    have := segOk_all hc l (k + 1) _ (segOk_step hc h s.2)
    simp only [List.map_cons, List.foldl_cons, List.length_cons]
    rw [show k + (l.length + 1) = k + 1 + l.length by omega]
    exact this
theorem segRun_ok {X0 Y0 cx cy : Int} (hc : inWin X0 Y0 (cx, cy)) (l : List (Seg X0 Y0)) : segOk X0 Y0 l.length (segRun cx cy (l.map (·.1))) := by
  have := segOk_all hc l 0 ((cx, cy), []) (by obtain ⟨k1, k2, k3, k4⟩ := hc; simp only at *; exact ⟨k1, by simp only; omega, k3, by simp only; omega, by simp⟩)
  rwa [Nat.zero_add] at this

/-- What the rounds leave. -/
def PInv {X0 Y0 : Int} (w : World) (c3 c4 c5 : Nat) (cx cy : Int) (bx : Value) (pre : List (Seg X0 Y0)) (W : World) : Prop :=
  W.heap[c3]? = some (.cells #[.int .i64 cx, .int .i64 cy] 113 (0, 0)) ∧ (∃ v, W.heap[c4]? = some (.cells #[v] 115 (0, 0)) ∧ Buf W w.heap.size v (headB cx cy ++ (segRun cx cy (pre.map (·.1))).2)) ∧
  W.heap[c5]? = some (.cells #[.int .i64 (segRun cx cy (pre.map (·.1))).1.1, .int .i64 (segRun cx cy (pre.map (·.1))).1.2] 113 (0, 0)) ∧ W.heap[c5 + 1]? = some (.cells #[bx] 71 (0, 0)) ∧ Below w.heap.size w W

theorem buf_set {W : World} {B b j : Nat} {cs : Array Value} {t : TypeId} {fz : Nat × Nat} {v : Value} {l : List UInt8} (hb : Buf W B v l) (h : W.heap[b]? = some (.cells cs t fz)) (ht : t ≠ 5) (u : Value) : Buf (W.setCell ⟨b, j, none⟩ u) B v l := by
  obtain ⟨h1, h2⟩ := hb
  refine ⟨h1, ?_⟩
  rcases h2 with h2 | ⟨g, cap, cur, hv, hgb, hh, r⟩
  · exact .inl h2
  · refine .inr ⟨g, cap, cur, hv, hgb, blk_set hh (fun e => ?_) u, r⟩
    simp only at e
    subst e
    rw [h] at hh; cases hh; exact ht rfl

theorem Kept.keeps {B : Nat} {W W' : World} (h : Kept B W W') (n : Nat) : KeepsFrom n W W' :=
  ⟨h.be.size, fun k o _ hk ho => h.ok k o hk (by simp) (fun c f e => by subst e; cases ho)⟩

theorem segs_len : ∀ C : List Cel, (segs C).length ≤ C.length
  | [] => by simp [segs]
  | (x, y) :: r => by
    have ih := segs_len r
    rw [segs]
    split
    · simp
    · rename_i x' y' n q h
      rw [h] at ih
      split <;> simp at * <;> omega

theorem buf_text {w : World} {B g cap : Nat} {l : List UInt8} (h : Buf w B (.slice (some ⟨g, 0, none⟩) l.length cap) l) : (convert 115 9 (.slice (some ⟨g, 0, none⟩) l.length cap)).run Tryz.prog w = .ok (.string ⟨l.toArray⟩) w :=
  run_convert_bytes_back w _ _ 5 ⟨g, 0, none⟩ cap l Tryz.underlying115 Tryz.underlying5 Tryz.underlying9 fun j hj =>
    World.ownsRow.cells h rfl j _ (by simp [Lib.byteCells, List.getElem?_eq_getElem hj])

end Go.Proofs.YtiohpcnnpmnjhaaGreatDoor

namespace Go.Proofs.YtiohpcnnpmnjhaaGreatDoor
open Go.RowKit Go.Shelf
set_option linter.unusedVariables false
attribute [local go_sem] Oper.semAt_some

set_option maxHeartbeats 800000 in
theorem corner_nil (cap : Nat) (w : World) (a : Option Addr) :
    Calls Tryz.prog 66 #[.slice a 0 cap] w fun e w' => e = .returned (.agg #[.int .i64 0, .int .i64 0]) ∧ Below w.heap.size w w' := by
  go_enter Tryz.func66, Tryz.ntmps66
  go_wp2
  exact bodyPost_ret (v := .agg #[.int .i64 0, .int .i64 0]) (by simp [results, Tryz.results66, go_sem]) rfl ⟨rfl, (Below.refl _ _).alloc (Nat.le_refl _) _⟩

/-- What the rounds leave: the result's place, the least so far, the iterator's boxes. -/
def CInv (w : World) (x y : Int) (v : Value) (pre : List Cel) (W : World) : Prop :=
  W.heap[w.heap.size]? = some (.cells #[.int .i64 0, .int .i64 0] 113 (0, 0)) ∧ W.heap[w.heap.size + 1]? = some (.cells #[.int .i64 (minX x pre), .int .i64 y] 113 (0, 0)) ∧
  W.heap[w.heap.size + 2]? = some (.cells #[v] 71 (0, 0)) ∧ W.heap[w.heap.size + 3]? = some (.cells #[.int .i64 0, .int .i64 0] 113 (0, 0)) ∧ Below w.heap.size w W

set_option maxRecDepth 100000 in
set_option maxHeartbeats 1600000 in
theorem corner_in (g cap : Nat) (x y : Int) (C : List Cel) (w : World) (own : w.ownsRow 0 113 2 (.slice (some ⟨g, 0, none⟩) C.length cap) C.length (flatC C)) (h : CellsAt w g C) (hg : g < w.heap.size) (hl : C.length ≤ 1000000) (hF : Fits 0 0 C) (h0 : C[0]? = some (x, y)) :
    CallsIn Fence.wide 5 Tryz.prog 66 #[.slice (some ⟨g, 0, none⟩) C.length cap] w fun e w' => e = .returned (.agg #[.int .i64 (minX x C), .int .i64 y]) ∧ Below w.heap.size w w' := by
  have hpos : 0 < C.length := by
    cases C with
    | nil => simp at h0
    | cons => simp
  have hz : ((C.length : Int) == 0) = false := by have : ¬ (C.length : Int) = 0 := by omega
                                                  simpa using this
  obtain ⟨e0, e1⟩ := h.get 0 _ h0
  simp only [Nat.zero_mul, Nat.zero_add] at e0 e1
  refine callsIn_of_wp_marks Tryz.func66 rfl trivial ?_ rfl
  simp only [Tryz.ntmps66, List.size_toArray, List.length_cons, List.length_nil, Nat.reduceAdd, Nat.reduceSub, Array.replicate_succ, Array.replicate_zero, List.push_toArray, List.append_toArray, List.nil_append, List.cons_append]
  gi_wp2_with (refine ⟨trivial, ?_⟩; gi_at_call 96; refine (callsIn_wide.2 (cells_any (some ⟨g, 0, none⟩) C.length cap _)).mono ?_; rintro e w1 ⟨rfl, rfl⟩)
  have hB2 : Below w.heap.size w ((w.alloc (.cells #[.int .i64 0, .int .i64 0] 113)).alloc (.cells #[.int .i64 x, .int .i64 y] 113)) := ((Below.refl _ _).alloc (Nat.le_refl _) _).alloc (by simp) _
  have t0 := blk_old (blk_old (blk_old (blk_new w (.cells #[.int .i64 0, .int .i64 0] 113)) (.cells #[.int .i64 x, .int .i64 y] 113)) (.cells #[.slice (some ⟨g, 0, none⟩) C.length cap] 71)) (.cells #[.int .i64 0, .int .i64 0] 113)
  have t1 := blk_old (blk_old (blk_new (w.alloc (.cells #[.int .i64 0, .int .i64 0] 113)) (.cells #[.int .i64 x, .int .i64 y] 113)) (.cells #[.slice (some ⟨g, 0, none⟩) C.length cap] 71)) (.cells #[.int .i64 0, .int .i64 0] 113)
  have t2 := blk_old (blk_new ((w.alloc (.cells #[.int .i64 0, .int .i64 0] 113)).alloc (.cells #[.int .i64 x, .int .i64 y] 113)) (.cells #[.slice (some ⟨g, 0, none⟩) C.length cap] 71)) (.cells #[.int .i64 0, .int .i64 0] 113)
  have t3 := blk_new (((w.alloc (.cells #[.int .i64 0, .int .i64 0] 113)).alloc (.cells #[.int .i64 x, .int .i64 y] 113)).alloc (.cells #[.slice (some ⟨g, 0, none⟩) C.length cap] 71)) (.cells #[.int .i64 0, .int .i64 0] 113)
  have hB4 := (hB2.alloc hB2.size (.cells #[.slice (some ⟨g, 0, none⟩) C.length cap] 71)).alloc (by simp; omega) (.cells #[.int .i64 0, .int .i64 0] 113)
  simp only [World.size_alloc, Nat.add_assoc, Nat.reduceAdd] at t0 t1 t2 t3
  refine wpIn_rangeFunc_ownH (encs := encC) (N := C.length) (S := fun xs : List Cel => xs = C.map (sh 0 0)) (Sp := fun _ => True) (Kp := Kp2 w.heap.size (w.heap.size + 2)) rfl (by omega) (gf := 131) (lb := #[.pointer (some ⟨w.heap.size + 2, 0, none⟩), .pointer (some ⟨w.heap.size + 3, 0, none⟩)]) rfl trivial (enters_of Tryz.func131 (by kernel_rfl) rfl) ?seq Kp2.trans ?kb (Below.refl _ _) (fun _ => rfl)
    (CInv w x y (.slice (some ⟨g, 0, none⟩) C.length cap))
    (fun _ _ _ => False) ?hI (fun _ _ _ _ _ h _ _ => h) ?h0
    (fun c a' W => ∃ Bx, W.heap[Bx]? = some (.cells #[.int .i64 c.1, .int .i64 c.2] 113 (0, 0)) ∧ Bx ≠ w.heap.size + 1 ∧ a' = { tmps := #[.slice (some ⟨g, 0, none⟩) C.length cap, undef, .pointer (some ⟨w.heap.size, 0, none⟩), .pointer (some ⟨w.heap.size + 1, 0, none⟩), .pointer (some ⟨Bx, 0, none⟩), .slice (some ⟨g, 0, none⟩) C.length cap, .int .i64 (C.length : Int), .bool false, undef, .slice (some ⟨g, 0, none⟩) C.length cap, .pointer (some ⟨g, 0, none⟩), .agg #[.int .i64 x, .int .i64 y], .slice (some ⟨g, 0, none⟩) C.length cap, .func (.func 131) #[] #[.pointer (some ⟨w.heap.size + 2, 0, none⟩), .pointer (some ⟨w.heap.size + 3, 0, none⟩)], .agg #[.int .i64 c.1, .int .i64 c.2], undef, undef, undef, undef, undef, undef, undef], defers := [] }) ?hAx ?assign ?body ?done ?stop
  case seq => exact moved_stops 4 (by omega) (some ⟨g, 0, none⟩) cap (w.heap.size + 2) w.heap.size 0 0 C w _ own hl hF rfl hB4 t2 t3
  case kb =>
    intro W l o o' hlt hl2 ho hw
    have hsz : w.heap.size + 4 ≤ l := by simpa using hlt
    exact ⟨belowK_b (n₀ := w.heap.size) (w := w) (Nat.le_refl _) W l o o' (by omega) hl2 ho hw, World.putObj_heap_other (by omega), World.putObj_heap_other (by omega)⟩
  case hI =>
    rintro pre W W' row ⟨h1, h2, h3, h4, hB⟩ hg hr
    exact ⟨keepc h1 hg hr, keepc h2 hg hr, keepc h3 hg hr, keepc h4 hg hr, keepw hB (Nat.le_refl _) (by simp; omega) hg hr⟩
  case h0 => exact ⟨t0, by simpa [minX] using t1, t2, t3, hB4⟩
  case hAx =>
    rintro c a' _ W W' row ⟨Bx, hx, hne, ha⟩ hg hr
    exact ⟨Bx, keepc hx hg hr, hne, ha⟩
  case assign =>
    rintro l pre c W K ⟨h1, h2, h3, h4, hB⟩ hK
    simp only [encC]
    gi_wp2
    exact hK _ _ ((KeepsOthers.alloc _ _).from _) ⟨(Below.refl _ W).alloc hB.size _, Below.heap_alloc W _ _ (blk_lt h3), Below.heap_alloc W _ _ (blk_lt h4)⟩ ⟨blk_old h1 _, blk_old h2 _, blk_old h3 _, blk_old h4 _, hB.alloc hB.size _⟩ ⟨W.heap.size, blk_new W _, by have := blk_lt h2; omega, rfl⟩
  case body =>
    rintro l pre ⟨px, py⟩ a' W hl0 hlr ⟨h1, h2, h3, h4, hB⟩ ⟨Bx, ex, hne, rfl⟩ hpl
    have q0 := cell_of h2 0
    have q1 := cell_of h2 1
    have qx0 := cell_of ex 0
    have qx1 := cell_of ex 1
    have z0 := frz_of h2 0
    have n1 : ¬ w.heap.size = w.heap.size + 1 := by omega
    have n2 : ¬ w.heap.size + 2 = w.heap.size + 1 := by omega
    have n3 : ¬ w.heap.size + 3 = w.heap.size + 1 := by omega
    obtain ⟨m, hm⟩ : ∃ m, minX x pre = m := ⟨_, rfl⟩
    rw [hm] at h2 q0
    simp only at ex qx0 qx1
    gi_wp2
    have h3' := blk_set (a := ⟨w.heap.size + 1, 0, none⟩) h3 n2 (.int .i64 (min m px))
    have h4' := blk_set (a := ⟨w.heap.size + 1, 0, none⟩) h4 n3 (.int .i64 (min m px))
    have hB' := hB.setCell (p := ⟨w.heap.size + 1, 0, none⟩) (by show w.heap.size ≤ w.heap.size + 1; omega) (.int .i64 (min m px))
    refine ⟨(KeepsOthers.setCell W ⟨w.heap.size + 1, 0, none⟩ (.int .i64 (min m px))).from _, ⟨(Below.refl _ W).setCell (p := ⟨w.heap.size + 1, 0, none⟩) (by show w.heap.size ≤ w.heap.size + 1; omega) _, h3'.trans h3.symm, h4'.trans h4.symm⟩, ?_⟩
    refine ⟨blk_set (a := ⟨w.heap.size + 1, 0, none⟩) h1 n1 _, ?_, h3', h4', hB'⟩
    rw [minX_snoc, hm]
    exact blk_put (j := 0) h2 _
  case done =>
    rintro D xs W hD hS ⟨h1, h2, h3, h4, hB⟩ hK
    rw [hS, sh_zero, List.map_id] at h2
    have q0 := cell_of h2 0
    have q1 := cell_of h2 1
    have y0 := cell_of h1 0
    have y1 := cell_of h1 1
    have x0 := frz_of h1 0
    have x1 := frz_of h1 1
    obtain ⟨m, hm⟩ : ∃ m, minX x C = m := ⟨_, rfl⟩
    rw [hm] at h2 q0
    have HM : Hid (minX x C = m) := hm
    clear hm
    gi_wp2
    have hDl : w.heap.size + 4 ≤ D := by simpa using hD
    have rF : ((W.setCell ⟨w.heap.size, 0, none⟩ (.int .i64 m)).setCell ⟨w.heap.size, 1, none⟩ (.int .i64 y)).heap[w.heap.size]? = some (.cells #[.int .i64 m, .int .i64 y] 113 (0, 0)) := blk_put (j := 1) (blk_put (j := 0) h1 _) _
    have hKD : ((W.setCell ⟨w.heap.size, 0, none⟩ (.int .i64 m)).setCell ⟨w.heap.size, 1, none⟩ (.int .i64 y)).heap[D]? = some (.deferred (some [])) := blk_set (a := ⟨w.heap.size, 1, none⟩) (blk_set (a := ⟨w.heap.size, 0, none⟩) hK (by show D ≠ w.heap.size; omega) _) (by show D ≠ w.heap.size; omega) _
    have hBe : Below w.heap.size w ((W.setCell ⟨w.heap.size, 0, none⟩ (.int .i64 m)).setCell ⟨w.heap.size, 1, none⟩ (.int .i64 y)) := (hB.setCell (p := ⟨w.heap.size, 0, none⟩) (Nat.le_refl _) _).setCell (p := ⟨w.heap.size, 1, none⟩) (Nat.le_refl _) _
    obtain ⟨W2, hW2⟩ : ∃ W2, ((W.setCell ⟨w.heap.size, 0, none⟩ (.int .i64 m)).setCell ⟨w.heap.size, 1, none⟩ (.int .i64 y)) = W2 := ⟨_, rfl⟩
    rw [hW2] at rF hKD hBe ⊢
    refine ⟨by simp, .inl ⟨_, _, rfl, run_takeDeferred hKD, ?_⟩⟩
    have rG : (W2.putObj D (.deferred none)).heap[w.heap.size]? = some (.cells #[.int .i64 m, .int .i64 y] 113 (0, 0)) := (World.putObj_heap_other (by omega)).trans rF
    have g0 := cell_of rG 0
    have g1 := cell_of rG 1
    refine ⟨.agg #[.int .i64 m, .int .i64 y], by simp [results, Tryz.results66, go_sem, g0, g1], by rw [HM.out], hBe.trans (belowK_b (n₀ := w.heap.size) (w := w) (Nat.le_refl _) W2 D _ _ (by omega) hKD rfl rfl)⟩
  case stop =>
    intro D c pre W hD hs hx
    exact hx.elim

theorem corner_any (B : Nat) (v : Value) (C : List Cel) (w : World) (h : w.ownsRow B 113 2 v C.length (flatC C)) (hl : C.length ≤ 1000000) (hF : Fits 0 0 C) :
    Calls Tryz.prog 66 #[v] w fun e w' => e = .returned (.agg #[.int .i64 (cornP C).1, .int .i64 (cornP C).2]) ∧ Below w.heap.size w w' := by
  have h' := ownsRow_mono h (Nat.zero_le B)
  rcases cells_cases h with ⟨rfl, rfl⟩ | ⟨g, cap, rfl, hS, hg⟩
  · exact corner_nil 0 w none
  · cases C with
    | nil => exact corner_nil cap w _
    | cons c r =>
      obtain ⟨x, y⟩ := c
      exact callsIn_wide.1 (corner_in g cap x y ((x, y) :: r) w h' hS hg hl hF (by simp))

end Go.Proofs.YtiohpcnnpmnjhaaGreatDoor

namespace Go.Proofs.YtiohpcnnpmnjhaaGreatDoor
open Go.RowKit Go.Shelf
set_option linter.unusedVariables false
attribute [local go_sem] Oper.semAt_some

set_option maxRecDepth 100000 in
set_option maxHeartbeats 1600000 in
theorem plainText_in (X0 Y0 : Int) (a : Option Addr) (vc : Nat) (C : List Cel) (w : World) (own : w.ownsRow 0 113 2 (.slice a C.length vc) C.length (flatC C)) (hl : C.length ≤ 100) (hC : ∀ c ∈ C, inWin X0 Y0 c) (hX : -3000000000000000000 ≤ X0) (hX' : X0 ≤ 3000000000000000000) (hY : -3000000000000000000 ≤ Y0) (hY' : Y0 ≤ 3000000000000000000)
    (hcw : inWin X0 Y0 (cornP C) ∨ C = []) (ht : Tab w.heap.size w) :
    CallsIn Fence.wide 5 Tryz.prog 41 #[.slice a C.length vc] w fun e w' => e = .returned (.string ⟨(plainB C).toArray⟩) ∧ Below w.heap.size w w' := by
  have cornB : -4000000000000000000 ≤ (cornP C).1 ∧ (cornP C).1 ≤ 4000000000000000000 ∧ -4000000000000000000 ≤ (cornP C).2 ∧ (cornP C).2 ≤ 4000000000000000000 := by
    rcases hcw with h | rfl
    · obtain ⟨h1, h2, h3, h4⟩ := h; omega
    · simp [cornP]
  have hco := corner_any 0 _ C w own (by omega) (fun c hc => by obtain ⟨k1, k2, k3, k4⟩ := hC c hc; omega)
  obtain ⟨cx, hcx⟩ : ∃ cx, (cornP C).1 = cx := ⟨_, rfl⟩
  obtain ⟨cy, hcy⟩ : ∃ cy, (cornP C).2 = cy := ⟨_, rfl⟩
  rw [hcx, hcy] at hco cornB
  have lx := Lib.itoa_length_le cx (by omega) (by omega)
  obtain ⟨L2, hL2⟩ : ∃ L2, Lib.itoa cx ++ [32] = L2 := ⟨_, rfl⟩
  have hL2l : 0 < L2.length ∧ L2.length ≤ 22 := by rw [← hL2]; simp; omega
  refine callsIn_of_wp_marks Tryz.func41 rfl trivial ?_ rfl
  simp only [Tryz.ntmps41, List.size_toArray, List.length_cons, List.length_nil, Nat.reduceAdd, Nat.reduceSub, Array.replicate_succ, Array.replicate_zero, List.push_toArray, List.append_toArray, List.nil_append, List.cons_append]
  gi_wp2_with (first
    | (refine ⟨trivial, ?_⟩; gi_at_call 66; refine (callsIn_wide.2 hco).mono ?_; rintro e w1 ⟨rfl, b1⟩; have s1 := b1.size; obtain ⟨c3, hc3⟩ : ∃ c3, w1.heap.size = c3 := ⟨_, rfl⟩; rw [hc3] at s1; clear hco))
  have B1 := b1.alloc (by omega : w.heap.size ≤ w1.heap.size) (.cells #[.int .i64 cx, .int .i64 cy] 113)
  refine ⟨trivial, ?_⟩
  refine (callsIn_wide.2 (appendNumber_any w.heap.size (.slice none 0 0) [] cx _ (World.ownsRow_nil _ _ _ _) B1.size (ht.on B1) (by omega) (by omega) (by simp))).mono ?_
  rintro e w2 ⟨⟨v2, rfl, bf2⟩, k2⟩
  rw [List.nil_append, hL2] at bf2
  have h3 := k2.block (k := c3) (by rw [← hc3]; exact blk_new w1 _) (by decide)
  have B2 := B1.trans k2.be
  obtain ⟨g2, cap2, rfl⟩ := buf_form bf2 hL2l.1
  have q31 := cell_of h3 1
  have q30 := cell_of h3 0
  have l3 := blk_lt h3
  obtain ⟨c4, hc4⟩ : ∃ c4, w2.heap.size = c4 := ⟨_, rfl⟩
  rw [hc4] at l3
  have p4 := B2.size
  clear B1 b1
  gi_wp2
  have own2 := (show World.ownsRow _ _ _ _ _ _ _ from bf2).alloc (.cells #[.slice (some ⟨g2, 0, none⟩) L2.length cap2] 115)
  have B3 := B2.alloc (by omega) (.cells #[.slice (some ⟨g2, 0, none⟩) L2.length cap2] 115)
  refine ⟨trivial, ?_⟩
  refine (callsIn_wide.2 (appendNumber_any w.heap.size _ L2 cy _ own2 B3.size (ht.on B3) (by omega) (by omega) (by omega))).mono ?_
  rintro e w3 ⟨⟨v3, rfl, bf3⟩, k3⟩
  have ly := Lib.itoa_length_le cy (by omega) (by omega)
  obtain ⟨L3, hL3⟩ : ∃ L3, L2 ++ Lib.itoa cy ++ [32] = L3 := ⟨_, rfl⟩
  have hL3l : 0 < L3.length ∧ L3.length ≤ 44 := by rw [← hL3]; simp; omega
  have hhd : headB cx cy = L3 := by rw [← hL3, ← hL2]; simp [headB]
  rw [hL3] at bf3
  have h3' := k3.block (blk_old h3 _) (by decide)
  have h4 := k3.block (k := c4) (by rw [← hc4]; exact blk_new w2 _) (by decide)
  obtain ⟨g3, cap3, rfl⟩ := buf_form bf3 hL3l.1
  have B4 := B3.trans k3.be
  have r31 := cell_of h3' 1
  have r30 := cell_of h3' 0
  have r4 := cell_of h4 0
  have z4 := frz_of h4 0
  have l4 := blk_lt h4
  obtain ⟨c5, hc5⟩ : ∃ c5, w3.heap.size = c5 := ⟨_, rfl⟩
  rw [hc5] at l4
  have p5 := B4.size
  have n34 : ¬ c3 = c4 := by omega
  have n43 : ¬ c4 = c3 := by omega
  clear B3 own2 q31 q30 bf2 h3 k2 B2 k3
  gi_wp2_with (refine ⟨trivial, ?_⟩; gi_at_call 68; refine (callsIn_wide.2 (spans_any a C.length vc _)).mono ?_; rintro e w5 ⟨rfl, rfl⟩)
  refine wpIn_rangeFunc_ownH (encs := encSeg) (N := C.length) (S := fun xs : List (Seg X0 Y0) => xs.map (·.1) = segs C) (Sp := fun _ => True) (Kp := KpB w.heap.size (c5 + 1)) rfl (by omega) (gf := 98) (lb := #[.pointer (some ⟨c5 + 1, 0, none⟩)]) rfl trivial (enters_of Tryz.func98 (by kernel_rfl) rfl) ?seq KpB.trans ?kb (Below.refl _ _) (fun _ => rfl)
    (PInv w c3 c4 c5 cx cy (.slice a C.length vc))
    (fun _ _ _ => False) ?hI (fun _ _ _ _ _ h _ _ => h) ?h0
    (fun x a' W => ∃ Bx, W.heap[Bx]? = some (.cells #[.int .i64 x.1.1, .int .i64 x.1.2.1, .int .i64 x.1.2.2] 121 (0, 0)) ∧ a' = { tmps := #[.slice a C.length vc, undef, .string ⟨#[]⟩, .pointer (some ⟨c3, 0, none⟩), .pointer (some ⟨c4, 0, none⟩), .pointer (some ⟨c5, 0, none⟩), .pointer (some ⟨Bx, 0, none⟩), undef, .slice a C.length vc, .agg #[.int .i64 cx, .int .i64 cy], .pointer (some ⟨c3, 0, none⟩), .int .i64 cx, .slice (some ⟨g2, 0, none⟩) L2.length cap2, .slice (some ⟨g2, 0, none⟩) L2.length cap2, .pointer (some ⟨c3, 1, none⟩), .int .i64 cy, .slice (some ⟨g3, 0, none⟩) L3.length cap3, .agg #[.int .i64 cx, .int .i64 cy], .slice a C.length vc, .func (.func 98) #[] #[.pointer (some ⟨c5 + 1, 0, none⟩)], .agg #[.int .i64 x.1.1, .int .i64 x.1.2.1, .int .i64 x.1.2.2], undef, undef, undef, undef, undef, undef, undef, undef, undef, undef, undef, undef, undef, undef, undef, undef, undef, undef, undef, undef, undef, undef, undef, undef, undef, undef, undef, undef, undef, undef, undef, undef, undef, undef, undef], defers := [] }) ?hAx ?assign ?body ?done ?stop
  case seq =>
    refine spans_stops X0 Y0 a vc (c5 + 1) w.heap.size C w _ own hl hC hX hX' rfl ?_ ?_
    · exact ((B4.setCell (p := ⟨c4, 0, none⟩) (by show w.heap.size ≤ c4; omega) _).alloc (by simp [World.setCell]; omega) _).alloc (by simp [World.setCell]; omega) _
    · have := blk_new ((w3.setCell ⟨c4, 0, none⟩ (.slice (some ⟨g3, 0, none⟩) L3.length cap3)).alloc (.cells #[.int .i64 cx, .int .i64 cy] 113)) (.cells #[.slice a C.length vc] 71)
      simpa [World.setCell, hc5] using this
  case kb =>
    intro W l o o' hlt hl2 ho hw
    have hsz : c5 + 2 ≤ l := by simpa [World.setCell, hc5] using hlt
    exact ⟨belowK_b (n₀ := w.heap.size) (w := w) (Nat.le_refl _) W l o o' (by omega) hl2 ho hw, World.putObj_heap_other (by omega)⟩
  case hI =>
    intro pre W W' row hs hg hr
    obtain ⟨e3, ⟨v, e4, bf⟩, e5, e6, hB⟩ := hs
    exact ⟨keepc e3 hg hr, ⟨v, keepc e4 hg hr, keepb bf hg hr⟩, keepc e5 hg hr, keepc e6 hg hr, keepw hB (Nat.le_refl _) (by simp [World.setCell]; omega) hg hr⟩
  case h0 =>
    have B5 := (B4.setCell (p := ⟨c4, 0, none⟩) (by show w.heap.size ≤ c4; omega) (.slice (some ⟨g3, 0, none⟩) L3.length cap3)).alloc (by simp [World.setCell]; omega) (.cells #[.int .i64 cx, .int .i64 cy] 113)
    have e5 := blk_new (w3.setCell ⟨c4, 0, none⟩ (.slice (some ⟨g3, 0, none⟩) L3.length cap3)) (.cells #[.int .i64 cx, .int .i64 cy] 113)
    have e6 := blk_new ((w3.setCell ⟨c4, 0, none⟩ (.slice (some ⟨g3, 0, none⟩) L3.length cap3)).alloc (.cells #[.int .i64 cx, .int .i64 cy] 113)) (.cells #[.slice a C.length vc] 71)
    simp only [World.size_alloc, World.size_setCell, hc5] at e5 e6
    refine ⟨blk_old (blk_old (blk_set h3' n34 _) _) _, ⟨_, blk_old (blk_old (blk_put h4 _) _) _, ?_⟩, blk_old e5 _, e6, B5.alloc B5.size _⟩
    have := ((show World.ownsRow _ _ _ _ _ _ _ from buf_set (j := 0) bf3 h4 (by decide) (.slice (some ⟨g3, 0, none⟩) L3.length cap3)).alloc (.cells #[.int .i64 cx, .int .i64 cy] 113)).alloc (.cells #[.slice a C.length vc] 71)
    rw [hhd]
    simpa [Buf, segRun] using this
  case hAx =>
    rintro x a' _ W W' row ⟨Bx, hx, ha⟩ hg hr
    exact ⟨Bx, keepc hx hg hr, ha⟩
  case assign =>
    rintro l pre x W K ⟨e3, ⟨v, e4, bf⟩, e5, e6, hB⟩ hK
    simp only [encSeg]
    gi_wp2
    exact hK _ _ ((KeepsOthers.alloc _ _).from _) ⟨(Below.refl _ W).alloc hB.size _, Below.heap_alloc W _ _ (blk_lt e6)⟩ ⟨blk_old e3 _, ⟨v, blk_old e4 _, (show World.ownsRow _ _ _ _ _ _ _ from bf).alloc _⟩, blk_old e5 _, blk_old e6 _, hB.alloc hB.size _⟩ ⟨W.heap.size, blk_new W _, rfl⟩
  case body =>
    rintro l pre ⟨⟨sx, sy, sn⟩, hok⟩ a' W hl0 hlr ⟨e3, ⟨v, e4, bf⟩, e5, e6, hB⟩ ⟨Bx, ex, rfl⟩ hpl
    have x1 := hok.1.1
    have x2 := hok.1.2.1
    have x3 := hok.1.2.2.1
    have x4 := hok.1.2.2.2
    have x5 := hok.2.1
    have x6 := hok.2.2
    have hw : inWin X0 Y0 (cx, cy) := by
      rcases hcw with h | rfl
      · rw [← hcx, ← hcy]; exact h
      · simp at hpl
    have so := segRun_ok hw pre
    obtain ⟨⟨⟨px, py⟩, Lr⟩, hst⟩ : ∃ st, segRun cx cy (pre.map (·.1)) = st := ⟨_, rfl⟩
    rw [hst] at e5 bf so
    rw [hhd] at bf
    obtain ⟨so1, so2, so3, so4, so5⟩ := so
    obtain ⟨hw1, hw2, hw3, hw4⟩ := hw
    simp only at e5 bf so1 so2 so3 so4 so5 hw1 hw2 hw3 hw4 x1 x2 x3 x4 x5 x6 ex
    obtain ⟨M, hM⟩ : ∃ M, L3 ++ Lr = M := ⟨_, rfl⟩
    have hMl : 0 < M.length ∧ M.length ≤ 44 + 100 * 400000000 := by rw [← hM, List.length_append]; omega
    rw [hM] at bf
    obtain ⟨gv, capv, rfl⟩ := buf_form bf hMl.1
    have q30 := cell_of e3 0
    have q50 := cell_of e5 0
    have q51 := cell_of e5 1
    have q4 := cell_of e4 0
    have qx0 := cell_of ex 0
    have qx1 := cell_of ex 1
    have qx2 := cell_of ex 2
    have z4 := frz_of e4 0
    have z50 := frz_of e5 0
    have z51 := frz_of e5 1
    have n3x : ¬ c3 = Bx := fun h => by subst h; exact absurd (ex.symm.trans e3) (by simp)
    have n4x : ¬ c4 = Bx := fun h => by subst h; exact absurd (ex.symm.trans e4) (by simp)
    have n5x : ¬ c5 = Bx := fun h => by subst h; exact absurd (ex.symm.trans e5) (by simp)
    have nx4 : ¬ Bx = c4 := fun h => n4x h.symm
    have nx5 : ¬ Bx = c5 := fun h => n5x h.symm
    have n45 : ¬ c4 = c5 := by omega
    have n54 : ¬ c5 = c4 := by omega
    have n35 : ¬ c3 = c5 := by omega
    have n64 : ¬ c5 + 1 = c4 := by omega
    have n65 : ¬ c5 + 1 = c5 := by omega
    by_cases hd : 0 < sy - py
    · gi_wp2
      refine ⟨trivial, ?_⟩
      refine (CallsIn.inRound l (callsIn_wide.2 (appendRun_int w.heap.size _ M (sy - py) 36 36 W rfl bf hB.size (ht.on hB) (by omega)))).mono ?_
      rintro e W1 ⟨⟨v1, rfl, bf1⟩, k1⟩
      obtain ⟨M1, hM1⟩ : ∃ M1, M ++ runB (sy - py).toNat 36 = M1 := ⟨_, rfl⟩
      have hM1l := congrArg List.length hM1
      rw [List.length_append] at hM1l
      rw [hM1] at bf1
      obtain ⟨g1, cap1, rfl⟩ := buf_form bf1 (by omega)
      have f3 := k1.block e3 (by decide)
      have f4 := k1.block e4 (by decide)
      have f5 := k1.block e5 (by decide)
      have f6 := k1.block e6 (by decide)
      have fx := k1.block ex (by decide)
      have q30 := cell_of f3 0
      have q50 := cell_of f5 0
      have q51 := cell_of f5 1
      have q4 := cell_of f4 0
      have qx0 := cell_of fx 0
      have qx1 := cell_of fx 1
      have qx2 := cell_of fx 2
      have z4 := frz_of f4 0
      have z50 := frz_of f5 0
      have z51 := frz_of f5 1
      gi_wp2
      have hr1 := runB_len (sy - py).toNat 36
      obtain ⟨V, hV⟩ : ∃ V, ((W1.setCell ⟨c4, 0, none⟩ (.slice (some ⟨g1, 0, none⟩) M1.length cap1)).setCell ⟨c5, 0, none⟩ (.int .i64 cx)).setCell ⟨c5, 1, none⟩ (.int .i64 sy) = V := ⟨_, rfl⟩
      have g3' : V.heap[c3]? = some (.cells #[.int .i64 cx, .int .i64 cy] 113 (0, 0)) := by rw [← hV]; exact blk_set (blk_set (blk_set f3 n34 _) n35 _) n35 _
      have g4 : V.heap[c4]? = some (.cells #[.slice (some ⟨g1, 0, none⟩) M1.length cap1] 115 (0, 0)) := by rw [← hV]; exact blk_set (blk_set (blk_put f4 _) n45 _) n45 _
      have g5 : V.heap[c5]? = some (.cells #[.int .i64 cx, .int .i64 sy] 113 (0, 0)) := by rw [← hV]; exact blk_put (blk_put (blk_set f5 n54 _) _) _
      have g6 : V.heap[c5 + 1]? = some (.cells #[.slice a C.length vc] 71 (0, 0)) := by rw [← hV]; exact blk_set (blk_set (blk_set f6 n64 _) n65 _) n65 _
      have gx : V.heap[Bx]? = some (.cells #[.int .i64 sx, .int .i64 sy, .int .i64 sn] 121 (0, 0)) := by rw [← hV]; exact blk_set (blk_set (blk_set fx nx4 _) nx5 _) nx5 _
      have bfV : Buf V w.heap.size (.slice (some ⟨g1, 0, none⟩) M1.length cap1) M1 := by
        rw [← hV]
        exact buf_set (buf_set (buf_set bf1 f4 (by decide) _) (blk_set (a := ⟨c4, 0, none⟩) f5 n54 _) (by decide) _) (blk_put (blk_set (a := ⟨c4, 0, none⟩) f5 n54 _) _) (by decide) _
      have bV : Below w.heap.size W V := by
        rw [← hV]
        exact ((k1.be.setCell (p := ⟨c4, 0, none⟩) (by show w.heap.size ≤ c4; omega) _).setCell (p := ⟨c5, 0, none⟩) (by show w.heap.size ≤ c5; omega) _).setCell (p := ⟨c5, 1, none⟩) (by show w.heap.size ≤ c5; omega) _
      have kV := (k1.keeps (((w3.setCell ⟨c4, 0, none⟩ (.slice (some ⟨g3, 0, none⟩) L3.length cap3)).alloc (.cells #[.int .i64 cx, .int .i64 cy] 113)).alloc (.cells #[.slice a C.length vc] 71)).heap.size).trans ((((KeepsOthers.setCell W1 ⟨c4, 0, none⟩ (.slice (some ⟨g1, 0, none⟩) M1.length cap1)).trans (KeepsOthers.setCell _ ⟨c5, 0, none⟩ (.int .i64 cx))).trans (KeepsOthers.setCell _ ⟨c5, 1, none⟩ (.int .i64 sy))).from _)
      rw [hV] at kV ⊢
      have hBV := hB.trans bV
      clear f3 f4 f5 f6 fx bf1 bf
      have hlt : py < sy := by omega
      refine ⟨trivial, ?_⟩
      refine (CallsIn.inRound l (callsIn_wide.2 (appendRun_int w.heap.size _ M1 (sx - cx) 98 98 V rfl bfV hBV.size (ht.on hBV) (by omega)))).mono ?_
      rintro e W2 ⟨⟨v2, rfl, bf2⟩, k2⟩
      obtain ⟨M2, hM2⟩ : ∃ M2, M1 ++ runB (sx - cx).toNat 98 = M2 := ⟨_, rfl⟩
      have hM2l := congrArg List.length hM2
      have hr2 := runB_len (sx - cx).toNat 98
      rw [List.length_append] at hM2l
      rw [hM2] at bf2
      obtain ⟨g2', cap2', rfl⟩ := buf_form bf2 (by omega)
      have i3 := k2.block g3' (by decide)
      have i4 := k2.block g4 (by decide)
      have i5 := k2.block g5 (by decide)
      have i6 := k2.block g6 (by decide)
      have ix := k2.block gx (by decide)
      have b2 := bV.trans k2.be
      have q30 := cell_of i3 0
      have q50 := cell_of i5 0
      have q51 := cell_of i5 1
      have q4 := cell_of i4 0
      have qx0 := cell_of ix 0
      have qx1 := cell_of ix 1
      have qx2 := cell_of ix 2
      have z4 := frz_of i4 0
      have z50 := frz_of i5 0
      have z51 := frz_of i5 1
      clear bfV
      gi_wp2
      have j3 := blk_set (a := ⟨c4, 0, none⟩) i3 n34 (.slice (some ⟨g2', 0, none⟩) M2.length cap2')
      have j4 := blk_put (j := 0) i4 (.slice (some ⟨g2', 0, none⟩) M2.length cap2')
      have j5 := blk_set (a := ⟨c4, 0, none⟩) i5 n54 (.slice (some ⟨g2', 0, none⟩) M2.length cap2')
      have j6 := blk_set (a := ⟨c4, 0, none⟩) i6 n64 (.slice (some ⟨g2', 0, none⟩) M2.length cap2')
      have jx := blk_set (a := ⟨c4, 0, none⟩) ix nx4 (.slice (some ⟨g2', 0, none⟩) M2.length cap2')
      have bfj := buf_set (j := 0) bf2 i4 (by decide) (.slice (some ⟨g2', 0, none⟩) M2.length cap2')
      have b3 := b2.setCell (p := ⟨c4, 0, none⟩) (by show w.heap.size ≤ c4; omega) (.slice (some ⟨g2', 0, none⟩) M2.length cap2')
      have k3 := ((kV.trans (k2.keeps _)).trans ((KeepsOthers.setCell _ ⟨c4, 0, none⟩ (.slice (some ⟨g2', 0, none⟩) M2.length cap2')).from _))
      have hB3 := hB.trans b3
      refine ⟨trivial, ?_⟩
      refine (CallsIn.inRound l (callsIn_wide.2 (appendRun_int w.heap.size _ M2 sn 111 111 _ rfl bfj hB3.size (ht.on hB3) (by omega)))).mono ?_
      rintro e W4 ⟨⟨v4, rfl, bf4⟩, k4⟩
      obtain ⟨M4, hM4⟩ : ∃ M4, M2 ++ runB sn.toNat 111 = M4 := ⟨_, rfl⟩
      have hM4l := congrArg List.length hM4
      rw [List.length_append] at hM4l
      rw [hM4] at bf4
      obtain ⟨g4', cap4', rfl⟩ := buf_form bf4 (by omega)
      have o3 := k4.block j3 (by decide)
      have o4 : W4.heap[c4]? = some (.cells #[.slice (some ⟨g2', 0, none⟩) M2.length cap2'] 115 (0, 0)) := k4.block j4 (by decide)
      have o5 := k4.block j5 (by decide)
      have o6 := k4.block j6 (by decide)
      have ox := k4.block jx (by decide)
      have b4 := b3.trans k4.be
      have k5 := k3.trans (k4.keeps _)
      have q30 := cell_of o3 0
      have q50 := cell_of o5 0
      have q51 := cell_of o5 1
      have q4 := cell_of o4 0
      have qx0 := cell_of ox 0
      have qx1 := cell_of ox 1
      have qx2 := cell_of ox 2
      have z4 := frz_of o4 0
      have z50 := frz_of o5 0
      have z51 := frz_of o5 1
      clear bf2 bfj
      gi_wp2
      refine ⟨trivial, ?_⟩
      refine (CallsIn.inRound l (callsIn_wide.2 (behind_any sx sy sn _ (by omega) (by omega) (by omega) (by omega)))).mono ?_
      rintro e W5 ⟨rfl, rfl⟩
      have p3 := blk_old (blk_old (blk_set (a := ⟨c4, 0, none⟩) o3 n34 (.slice (some ⟨g4', 0, none⟩) M4.length cap4')) (.cells #[.int .i64 sx, .int .i64 sy, .int .i64 sn] 121)) (.cells #[.int .i64 (sx + sn), .int .i64 sy] 113)
      have p4' := blk_old (blk_old (blk_put (j := 0) o4 (.slice (some ⟨g4', 0, none⟩) M4.length cap4')) (.cells #[.int .i64 sx, .int .i64 sy, .int .i64 sn] 121)) (.cells #[.int .i64 (sx + sn), .int .i64 sy] 113)
      have p5' := blk_old (blk_old (blk_set (a := ⟨c4, 0, none⟩) o5 n54 (.slice (some ⟨g4', 0, none⟩) M4.length cap4')) (.cells #[.int .i64 sx, .int .i64 sy, .int .i64 sn] 121)) (.cells #[.int .i64 (sx + sn), .int .i64 sy] 113)
      have p6 := blk_old (blk_old (blk_set (a := ⟨c4, 0, none⟩) o6 n64 (.slice (some ⟨g4', 0, none⟩) M4.length cap4')) (.cells #[.int .i64 sx, .int .i64 sy, .int .i64 sn] 121)) (.cells #[.int .i64 (sx + sn), .int .i64 sy] 113)
      have b5 := ((b4.setCell (p := ⟨c4, 0, none⟩) (by show w.heap.size ≤ c4; omega) (.slice (some ⟨g4', 0, none⟩) M4.length cap4')).alloc (by have := (hB.trans b4).size; simp; omega) (.cells #[.int .i64 sx, .int .i64 sy, .int .i64 sn] 121)).alloc (by have := (hB.trans b4).size; simp; omega) (.cells #[.int .i64 (sx + sn), .int .i64 sy] 113)
      have k6 := k5.trans ((((KeepsOthers.setCell _ ⟨c4, 0, none⟩ (.slice (some ⟨g4', 0, none⟩) M4.length cap4')).trans (KeepsOthers.alloc _ (.cells #[.int .i64 sx, .int .i64 sy, .int .i64 sn] 121))).trans (KeepsOthers.alloc _ (.cells #[.int .i64 (sx + sn), .int .i64 sy] 113))).from _)
      have bf6 := ((show World.ownsRow _ _ _ _ _ _ _ from buf_set (j := 0) bf4 o4 (by decide) (.slice (some ⟨g4', 0, none⟩) M4.length cap4')).alloc (.cells #[.int .i64 sx, .int .i64 sy, .int .i64 sn] 121)).alloc (.cells #[.int .i64 (sx + sn), .int .i64 sy] 113)
      obtain ⟨W6, hW6⟩ : ∃ W6, ((W4.setCell ⟨c4, 0, none⟩ (.slice (some ⟨g4', 0, none⟩) M4.length cap4')).alloc (.cells #[.int .i64 sx, .int .i64 sy, .int .i64 sn] 121)).alloc (.cells #[.int .i64 (sx + sn), .int .i64 sy] 113) = W6 := ⟨_, rfl⟩
      simp only [hW6] at p3 p4' p5' p6 b5 k6 bf6 ⊢
      have q50 := cell_of p5' 0
      have q51 := cell_of p5' 1
      have z50 := frz_of p5' 0
      have z51 := frz_of p5' 1
      gi_wp2
      have hst' : ∀ h, segRun cx cy ((pre ++ [(⟨(sx, sy, sn), h⟩ : Seg X0 Y0)]).map (·.1)) = ((sx + sn, sy), Lr ++ runB (sy - py).toNat 36 ++ runB (sx - cx).toNat 98 ++ runB sn.toNat 111) := fun h => by
        rw [List.map_append]
        simp only [List.map_cons, List.map_nil]
        rw [segRun_snoc, hst]
        simp only [segGo]
        rw [if_pos (by omega)]
        simp
      have b7 := (b5.setCell (p := ⟨c5, 0, none⟩) (by show w.heap.size ≤ c5; omega) (.int .i64 (sx + sn))).setCell (p := ⟨c5, 1, none⟩) (by show w.heap.size ≤ c5; omega) (.int .i64 sy)
      have p6' := blk_set (a := ⟨c5, 1, none⟩) (blk_set (a := ⟨c5, 0, none⟩) p6 n65 (.int .i64 (sx + sn))) n65 (.int .i64 sy)
      refine ⟨k6.trans (((KeepsOthers.setCell _ ⟨c5, 0, none⟩ (.int .i64 (sx + sn))).trans (KeepsOthers.setCell _ ⟨c5, 1, none⟩ (.int .i64 sy))).from _), ⟨b7, p6'.trans e6.symm⟩, ?_⟩
      unfold PInv
      rw [hst']
      refine ⟨blk_set (a := ⟨c5, 1, none⟩) (blk_set (a := ⟨c5, 0, none⟩) p3 n35 _) n35 _, ⟨_, blk_set (a := ⟨c5, 1, none⟩) (blk_set (a := ⟨c5, 0, none⟩) p4' n45 _) n45 _, ?_⟩, blk_put (j := 1) (blk_put (j := 0) p5' _) _, p6', hB.trans b7⟩
      have bf7 := buf_set (j := 1) (buf_set (j := 0) (show Buf _ _ _ _ from bf6) p5' (by decide) (.int .i64 (sx + sn))) (blk_put (j := 0) p5' (.int .i64 (sx + sn))) (by decide) (.int .i64 sy)
      rw [hhd]
      have hMM : M4 = L3 ++ (Lr ++ runB (sy - py).toNat 36 ++ runB (sx - cx).toNat 98 ++ runB sn.toNat 111) := by rw [← hM4, ← hM2, ← hM1, ← hM]; simp
      rw [hMM] at bf7
      simpa [hMM] using bf7
    · gi_wp2
      have bV : Below w.heap.size W W := Below.refl _ _
      have kV := KeepsFrom.refl (((w3.setCell ⟨c4, 0, none⟩ (.slice (some ⟨g3, 0, none⟩) L3.length cap3)).alloc (.cells #[.int .i64 cx, .int .i64 cy] 113)).alloc (.cells #[.slice a C.length vc] 71)).heap.size W
      have hlt : ¬ py < sy := by omega
      refine ⟨trivial, ?_⟩
      refine (CallsIn.inRound l (callsIn_wide.2 (appendRun_int w.heap.size _ M (sx - px) 98 98 W rfl bf hB.size (ht.on hB) (by omega)))).mono ?_
      rintro e W2 ⟨⟨v2, rfl, bf2⟩, k2⟩
      obtain ⟨M2, hM2⟩ : ∃ M2, M ++ runB (sx - px).toNat 98 = M2 := ⟨_, rfl⟩
      have hM2l := congrArg List.length hM2
      have hr2 := runB_len (sx - px).toNat 98
      rw [List.length_append] at hM2l
      rw [hM2] at bf2
      obtain ⟨g2', cap2', rfl⟩ := buf_form bf2 (by omega)
      have i3 := k2.block e3 (by decide)
      have i4 := k2.block e4 (by decide)
      have i5 := k2.block e5 (by decide)
      have i6 := k2.block e6 (by decide)
      have ix := k2.block ex (by decide)
      have b2 := bV.trans k2.be
      have q30 := cell_of i3 0
      have q50 := cell_of i5 0
      have q51 := cell_of i5 1
      have q4 := cell_of i4 0
      have qx0 := cell_of ix 0
      have qx1 := cell_of ix 1
      have qx2 := cell_of ix 2
      have z4 := frz_of i4 0
      have z50 := frz_of i5 0
      have z51 := frz_of i5 1
      clear bf
      gi_wp2
      have j3 := blk_set (a := ⟨c4, 0, none⟩) i3 n34 (.slice (some ⟨g2', 0, none⟩) M2.length cap2')
      have j4 := blk_put (j := 0) i4 (.slice (some ⟨g2', 0, none⟩) M2.length cap2')
      have j5 := blk_set (a := ⟨c4, 0, none⟩) i5 n54 (.slice (some ⟨g2', 0, none⟩) M2.length cap2')
      have j6 := blk_set (a := ⟨c4, 0, none⟩) i6 n64 (.slice (some ⟨g2', 0, none⟩) M2.length cap2')
      have jx := blk_set (a := ⟨c4, 0, none⟩) ix nx4 (.slice (some ⟨g2', 0, none⟩) M2.length cap2')
      have bfj := buf_set (j := 0) bf2 i4 (by decide) (.slice (some ⟨g2', 0, none⟩) M2.length cap2')
      have b3 := b2.setCell (p := ⟨c4, 0, none⟩) (by show w.heap.size ≤ c4; omega) (.slice (some ⟨g2', 0, none⟩) M2.length cap2')
      have k3 := ((kV.trans (k2.keeps _)).trans ((KeepsOthers.setCell _ ⟨c4, 0, none⟩ (.slice (some ⟨g2', 0, none⟩) M2.length cap2')).from _))
      have hB3 := hB.trans b3
      refine ⟨trivial, ?_⟩
      refine (CallsIn.inRound l (callsIn_wide.2 (appendRun_int w.heap.size _ M2 sn 111 111 _ rfl bfj hB3.size (ht.on hB3) (by omega)))).mono ?_
      rintro e W4 ⟨⟨v4, rfl, bf4⟩, k4⟩
      obtain ⟨M4, hM4⟩ : ∃ M4, M2 ++ runB sn.toNat 111 = M4 := ⟨_, rfl⟩
      have hM4l := congrArg List.length hM4
      rw [List.length_append] at hM4l
      rw [hM4] at bf4
      obtain ⟨g4', cap4', rfl⟩ := buf_form bf4 (by omega)
      have o3 := k4.block j3 (by decide)
      have o4 : W4.heap[c4]? = some (.cells #[.slice (some ⟨g2', 0, none⟩) M2.length cap2'] 115 (0, 0)) := k4.block j4 (by decide)
      have o5 := k4.block j5 (by decide)
      have o6 := k4.block j6 (by decide)
      have ox := k4.block jx (by decide)
      have b4 := b3.trans k4.be
      have k5 := k3.trans (k4.keeps _)
      have q30 := cell_of o3 0
      have q50 := cell_of o5 0
      have q51 := cell_of o5 1
      have q4 := cell_of o4 0
      have qx0 := cell_of ox 0
      have qx1 := cell_of ox 1
      have qx2 := cell_of ox 2
      have z4 := frz_of o4 0
      have z50 := frz_of o5 0
      have z51 := frz_of o5 1
      clear bf2 bfj
      gi_wp2
      refine ⟨trivial, ?_⟩
      refine (CallsIn.inRound l (callsIn_wide.2 (behind_any sx sy sn _ (by omega) (by omega) (by omega) (by omega)))).mono ?_
      rintro e W5 ⟨rfl, rfl⟩
      have p3 := blk_old (blk_old (blk_set (a := ⟨c4, 0, none⟩) o3 n34 (.slice (some ⟨g4', 0, none⟩) M4.length cap4')) (.cells #[.int .i64 sx, .int .i64 sy, .int .i64 sn] 121)) (.cells #[.int .i64 (sx + sn), .int .i64 sy] 113)
      have p4' := blk_old (blk_old (blk_put (j := 0) o4 (.slice (some ⟨g4', 0, none⟩) M4.length cap4')) (.cells #[.int .i64 sx, .int .i64 sy, .int .i64 sn] 121)) (.cells #[.int .i64 (sx + sn), .int .i64 sy] 113)
      have p5' := blk_old (blk_old (blk_set (a := ⟨c4, 0, none⟩) o5 n54 (.slice (some ⟨g4', 0, none⟩) M4.length cap4')) (.cells #[.int .i64 sx, .int .i64 sy, .int .i64 sn] 121)) (.cells #[.int .i64 (sx + sn), .int .i64 sy] 113)
      have p6 := blk_old (blk_old (blk_set (a := ⟨c4, 0, none⟩) o6 n64 (.slice (some ⟨g4', 0, none⟩) M4.length cap4')) (.cells #[.int .i64 sx, .int .i64 sy, .int .i64 sn] 121)) (.cells #[.int .i64 (sx + sn), .int .i64 sy] 113)
      have b5 := ((b4.setCell (p := ⟨c4, 0, none⟩) (by show w.heap.size ≤ c4; omega) (.slice (some ⟨g4', 0, none⟩) M4.length cap4')).alloc (by have := (hB.trans b4).size; simp; omega) (.cells #[.int .i64 sx, .int .i64 sy, .int .i64 sn] 121)).alloc (by have := (hB.trans b4).size; simp; omega) (.cells #[.int .i64 (sx + sn), .int .i64 sy] 113)
      have k6 := k5.trans ((((KeepsOthers.setCell _ ⟨c4, 0, none⟩ (.slice (some ⟨g4', 0, none⟩) M4.length cap4')).trans (KeepsOthers.alloc _ (.cells #[.int .i64 sx, .int .i64 sy, .int .i64 sn] 121))).trans (KeepsOthers.alloc _ (.cells #[.int .i64 (sx + sn), .int .i64 sy] 113))).from _)
      have bf6 := ((show World.ownsRow _ _ _ _ _ _ _ from buf_set (j := 0) bf4 o4 (by decide) (.slice (some ⟨g4', 0, none⟩) M4.length cap4')).alloc (.cells #[.int .i64 sx, .int .i64 sy, .int .i64 sn] 121)).alloc (.cells #[.int .i64 (sx + sn), .int .i64 sy] 113)
      obtain ⟨W6, hW6⟩ : ∃ W6, ((W4.setCell ⟨c4, 0, none⟩ (.slice (some ⟨g4', 0, none⟩) M4.length cap4')).alloc (.cells #[.int .i64 sx, .int .i64 sy, .int .i64 sn] 121)).alloc (.cells #[.int .i64 (sx + sn), .int .i64 sy] 113) = W6 := ⟨_, rfl⟩
      simp only [hW6] at p3 p4' p5' p6 b5 k6 bf6 ⊢
      have q50 := cell_of p5' 0
      have q51 := cell_of p5' 1
      have z50 := frz_of p5' 0
      have z51 := frz_of p5' 1
      gi_wp2
      have hst' : ∀ h, segRun cx cy ((pre ++ [(⟨(sx, sy, sn), h⟩ : Seg X0 Y0)]).map (·.1)) = ((sx + sn, sy), Lr ++ runB (sx - px).toNat 98 ++ runB sn.toNat 111) := fun h => by
        rw [List.map_append]
        simp only [List.map_cons, List.map_nil]
        rw [segRun_snoc, hst]
        simp only [segGo]
        rw [if_neg (by omega)]
      have b7 := (b5.setCell (p := ⟨c5, 0, none⟩) (by show w.heap.size ≤ c5; omega) (.int .i64 (sx + sn))).setCell (p := ⟨c5, 1, none⟩) (by show w.heap.size ≤ c5; omega) (.int .i64 sy)
      have p6' := blk_set (a := ⟨c5, 1, none⟩) (blk_set (a := ⟨c5, 0, none⟩) p6 n65 (.int .i64 (sx + sn))) n65 (.int .i64 sy)
      refine ⟨k6.trans (((KeepsOthers.setCell _ ⟨c5, 0, none⟩ (.int .i64 (sx + sn))).trans (KeepsOthers.setCell _ ⟨c5, 1, none⟩ (.int .i64 sy))).from _), ⟨b7, p6'.trans e6.symm⟩, ?_⟩
      unfold PInv
      rw [hst']
      refine ⟨blk_set (a := ⟨c5, 1, none⟩) (blk_set (a := ⟨c5, 0, none⟩) p3 n35 _) n35 _, ⟨_, blk_set (a := ⟨c5, 1, none⟩) (blk_set (a := ⟨c5, 0, none⟩) p4' n45 _) n45 _, ?_⟩, blk_put (j := 1) (blk_put (j := 0) p5' _) _, p6', hB.trans b7⟩
      have bf7 := buf_set (j := 1) (buf_set (j := 0) (show Buf _ _ _ _ from bf6) p5' (by decide) (.int .i64 (sx + sn))) (blk_put (j := 0) p5' (.int .i64 (sx + sn))) (by decide) (.int .i64 sy)
      rw [hhd]
      have hMM : M4 = L3 ++ (Lr ++ runB (sx - px).toNat 98 ++ runB sn.toNat 111) := by rw [← hM4, ← hM2, ← hM]; simp
      rw [hMM] at bf7
      simpa [hMM] using bf7
  case done =>
    rintro D xs W hD hS ⟨e3, ⟨v, e4, bf⟩, e5, e6, hB⟩ hK
    obtain ⟨⟨⟨px, py⟩, Lr⟩, hst⟩ : ∃ st, segRun cx cy (xs.map (·.1)) = st := ⟨_, rfl⟩
    rw [hst, hhd] at bf
    simp only at bf
    have hplain : plainB C = L3 ++ Lr ++ [33] := by rw [plainB, hcx, hcy, hhd, ← hS, hst]
    have hMl : (L3 ++ Lr).length ≤ 44 + 100 * 400000000 := by
      rw [List.length_append]
      rcases hcw with h | rfl
      · have so := segRun_ok (cx := cx) (cy := cy) (by rw [← hcx, ← hcy]; exact h) xs
        have h5 := so.2.2.2.2
        have hx := congrArg List.length hS
        have hs := segs_len C
        rw [List.length_map] at hx
        rw [hst] at h5
        simp only at h5
        omega
      · obtain rfl : xs = [] := by simpa [segs] using hS
        simp [segRun] at hst
        obtain ⟨_, rfl⟩ := hst
        simp; omega
    obtain ⟨M, hM⟩ : ∃ M, L3 ++ Lr = M := ⟨_, rfl⟩
    rw [hM] at bf hplain hMl
    obtain ⟨gv, capv, rfl⟩ := buf_form bf (by rw [← hM, List.length_append]; omega)
    obtain ⟨i0, hi, hz0, hz1, hz2⟩ := info_parts infoByte
    have q4 := cell_of e4 0
    have z4 := frz_of e4 0
    have own : W.ownsRow w.heap.size 5 1 (.slice (some ⟨gv, 0, none⟩) M.length capv) M.length (Lib.byteCells M) := bf
    have hBs := hB.size
    gi_wp2_with (gi_at_builtin; refine wpListIn_append_own _ rfl _ _ 115 rfl w.heap.size 5 i0 (.int .u8 0) 1 1 Tryz.underlying115 hi hz0 hz1 hz2 rfl (by decide) _ _ _ rfl (own.alloc _) ⟨W.heap.size, 0, none⟩ 1 1 [Value.int .u8 33] rfl rfl (cell_one_new _ _ _) (by simp [Value.oneCell']) (by unfold maxLen; omega) (by omega) (by simp; omega) ?_; intro v2 W2 own2 hg2 _)
    have bfz : Buf W2 w.heap.size v2 (M ++ [33]) := buf_snoc own2 rfl
    obtain ⟨Z, hZ⟩ : ∃ Z, M ++ [33] = Z := ⟨_, rfl⟩
    rw [hZ] at bfz hplain
    obtain ⟨g5, cap5, rfl⟩ := buf_form bfz (by rw [← hZ]; simp)
    rw [buf_text bfz]
    have hKD : W2.heap[D]? = some (.deferred (some [])) := by
      refine (hg2.block D (blk_lt (blk_old hK _)) (fun e => ?_)).trans (blk_old hK _)
      obtain ⟨_, h2⟩ := own
      rcases h2 with ⟨h2, _⟩ | ⟨g, cap, cur, hv, hgb, hh, _⟩
      · cases h2
      · cases hv
        have e' : D = gv := Option.some.inj e
        rw [← e', hK] at hh; cases hh
    have hBe : Below w.heap.size w W2 := hB.trans (grown_row own hg2 (by omega)).be
    gi_wp2
    refine ⟨by simp, .inl ⟨_, _, rfl, run_takeDeferred hKD, ?_⟩⟩
    refine ⟨_, results_tmp rfl _ _ _, by rw [hplain]; rfl, hBe.trans (belowK_b (n₀ := w.heap.size) (w := w) (Nat.le_refl _) W2 D _ _ (by simp [World.setCell] at hD; omega) hKD rfl rfl)⟩
  case stop =>
    intro D c pre W hD hs hx
    exact hx.elim

end Go.Proofs.YtiohpcnnpmnjhaaGreatDoor

namespace Go.Proofs.YtiohpcnnpmnjhaaGreatDoor
open Go.RowKit Go.Shelf
set_option linter.unusedVariables false

theorem plainText_any (C : List Cel) (v : Value) (X0 Y0 : Int) (B : Nat) (w : World) (own : w.ownsRow B 113 2 v C.length (flatC C)) (hf : Fine C X0 Y0) (ht : Tab w.heap.size w) :
    Calls Tryz.prog 41 #[v] w fun e w' => e = .returned (.string ⟨(plainB C).toArray⟩) ∧ Below w.heap.size w w' := by
  have own0 := ownsRow_mono own (Nat.zero_le B)
  obtain ⟨x1, x2, y1, y2, len, win, asc⟩ := hf
  have hco := Fine.corn ⟨x1, x2, y1, y2, len, win, asc⟩
  have hv : ∃ a cap, v = .slice a C.length cap := by
    rcases own.2 with ⟨rfl, h0⟩ | ⟨g, cap, cur, rfl, _⟩
    · exact ⟨none, 0, by rw [h0]⟩
    · exact ⟨_, _, rfl⟩
  obtain ⟨a, cap, rfl⟩ := hv
  exact callsIn_wide.1 (plainText_in X0 Y0 a cap C w own0 len win (by omega) (by omega) (by omega) (by omega) hco ht)

theorem tab_up {B n : Nat} {w w1 : World} (h : Tab B w) (hb : Below B w w1) (hn : B ≤ n) : Tab n w1 := fun w' hw => h w' (hb.trans (hw.mono hn))

/-- What Print's work leaves in its box. -/
def PrintR (s : ByteArray) (b : Nat) (w : World) (r : Option (Int × Int)) (w' : World) : Prop :=
  (∃ t, w'.heap[b]? = some (.cells #[.string t] 9 (0, 0)) ∧ match patR s with
    | .inl (k, i) => r = some (k, (i : Int)) ∧ t = ⟨#[]⟩
    | .inr C => r = none ∧ t = ⟨(plainB C).toArray⟩) ∧ Below b w w' 

set_option maxHeartbeats 800000 in
theorem work_any (bt bp : Nat) (s : ByteArray) (w : World) (hm : s.size ≤ maxLen) (hbp : bt < bp) (hc : w.heap[bt]? = some (.cells #[.string s] 9 (0, 0))) (hp : w.heap[bp]? = some (.cells #[.string ⟨#[]⟩] 9 (0, 0))) (ht : Tab bp w) :
    Calls Tryz.prog 63 #[.pointer (some ⟨bt, 0, none⟩), .pointer (some ⟨bp, 0, none⟩)] w fun e w' => (∀ k o, bp < k → w.heap[k]? = some o → w'.heap[k]? = some o) ∧ ((e = .returned (.tuple #[]) ∧ PrintR s bp w none w') ∨ ∃ k i, e = .panicked (refusal k i) ∧ PrintR s bp w (some (k, i)) w') := by
  have hR := readPattern_any s w hm
  have q0 := topc hc
  have q1 := topc hp
  have z1 := topz hp
  have lp : bp < w.heap.size := blk_lt hp
  cases hr : patR s with
  | inl x =>
    obtain ⟨k, i⟩ := x
    go_enter Tryz.func63, Tryz.ntmps63
    go_wp2_with (go_at_call 64; refine hR.mono ?_; intro e w' ho; unfold PatOut at ho; rw [hr] at ho; obtain ⟨hb, he⟩ := ho; simp only at he; subst he)
    refine ⟨rfl, ?_, .inr ⟨k, i, rfl, ⟨_, (hb.block bp lp).trans hp, ?_⟩, hb.mono (by omega)⟩⟩
    · intro k o hk ho; exact (hb.block k (blk_lt ho)).trans ho
    · rw [hr]; exact ⟨rfl, rfl⟩
  | inr C =>
    obtain ⟨X0, Y0, hf⟩ := patR_fine hr
    go_enter Tryz.func63, Tryz.ntmps63
    go_wp2_with (first
      | (go_at_call 64; refine hR.mono ?_; intro e w1 ho; unfold PatOut at ho; rw [hr] at ho; obtain ⟨hb, v, rfl, own⟩ := ho; have ht1 : Tab w1.heap.size w1 := tab_up ht (hb.mono (Nat.le_of_lt lp)) (Nat.le_trans (Nat.le_of_lt lp) hb.size); have hP := plainText_any C v X0 Y0 _ w1 own hf ht1)
      | (go_at_call 41; refine hP.mono ?_; rintro e w2 ⟨rfl, hb2⟩; have hb3 := hb.trans (hb2.mono hb.size); have c3 := (hb3.block bp lp).trans hp; have q3 := topc c3; have z3 := topz c3))
    go_end0
    refine ⟨?_, .inl ⟨rfl, ⟨_, blk_put (j := 0) c3 _, ?_⟩, (hb3.mono (Nat.le_of_lt lp)).setCell (p := ⟨bp, 0, none⟩) (Nat.le_refl _) _⟩⟩
    · intro k o hk ho
      exact blk_set ((hb3.block k (blk_lt ho)).trans ho) (by simp only; omega) _
    · rw [hr]; exact ⟨rfl, rfl⟩

/-- Print's answer. -/
def printT (s : ByteArray) : ByteArray × Int × Int := match patR s with
  | .inl (k, i) => (⟨#[]⟩, k, (i : Int))
  | .inr C => (⟨(plainB C).toArray⟩, 0, 0)

set_option maxHeartbeats 800000 in
/-- Print, whole. -/
theorem print_any (s : ByteArray) (w : World) (hm : s.size ≤ maxLen) (ht : Tab w.heap.size w) :
    Calls Tryz.prog 36 #[.string s] w fun e w' => e = .returned (.tuple #[.string (printT s).1, .int .i64 (printT s).2.1, .int .i64 (printT s).2.2]) ∧ Below w.heap.size w w' := by
  have hmf : ∀ (fn : Fn) (first cap : Array Value) (w : World), (Instr.makeFunc fn first cap).run Tryz.prog w = .ok (.func fn first cap) w := fun _ _ _ _ => rfl
  obtain ⟨w2, hw2⟩ : ∃ w2, (w.alloc (.cells #[.string s] 9)).alloc (.cells #[.string ⟨#[]⟩] 9) = w2 := ⟨_, rfl⟩
  have s2 : w2.heap.size = w.heap.size + 2 := by rw [← hw2]; simp
  have b2 : Below w.heap.size w w2 := by rw [← hw2]; exact ((Below.refl _ _).alloc (Nat.le_refl _) _).alloc (by simp) _
  have t0 : w2.heap[w.heap.size]? = some (.cells #[.string s] 9 (0, 0)) := by rw [← hw2]; exact blk_old (blk_new w _) _
  have t1 : w2.heap[w.heap.size + 1]? = some (.cells #[.string ⟨#[]⟩] 9 (0, 0)) := by
    have := blk_new (w.alloc (.cells #[.string s] 9)) (.cells #[.string ⟨#[]⟩] 9)
    rw [hw2] at this; simpa using this
  have b4 : Below w2.heap.size w2 ((w2.alloc (.cells #[.int .i64 0] 22)).alloc (.cells #[.int .i64 0] 3)) := ((Below.refl _ _).alloc (Nat.le_refl _) _).alloc (by simp) _
  have u0 : ((w2.alloc (.cells #[.int .i64 0] 22)).alloc (.cells #[.int .i64 0] 3)).heap[w2.heap.size]? = some (.cells #[.int .i64 0] 22 (0, 0)) := blk_old (blk_new _ _) _
  have u1 : ((w2.alloc (.cells #[.int .i64 0] 22)).alloc (.cells #[.int .i64 0] 3)).heap[w2.heap.size + 1]? = some (.cells #[.int .i64 0] 3 (0, 0)) := by
    have := blk_new (w2.alloc (.cells #[.int .i64 0] 22)) (.cells #[.int .i64 0] 3)
    simpa using this
  have hW := work_any w.heap.size (w.heap.size + 1) s ((w2.alloc (.cells #[.int .i64 0] 22)).alloc (.cells #[.int .i64 0] 3)) hm (by omega) (blk_old (blk_old t0 _) _) (blk_old (blk_old t1 _) _) (tab_up ht (b2.trans (b4.mono (by omega))) (by omega))
  have hA := attempt_gen 63 #[.pointer (some ⟨w.heap.size, 0, none⟩), .pointer (some ⟨w.heap.size + 1, 0, none⟩)] w2 (enters_of Tryz.func63 (by kernel_rfl) rfl)
    (fun r w' => PrintR s (w.heap.size + 1) ((w2.alloc (.cells #[.int .i64 0] 22)).alloc (.cells #[.int .i64 0] 3)) r w' ∧ w2.heap.size ≤ w'.heap.size)
    (hW.mono fun e w' ⟨hk, ho⟩ => by
      have k0 := hk _ _ (by omega) u0
      have k1 := hk _ _ (by omega) u1
      have l1 := blk_lt k1
      refine ⟨⟨k0, k1⟩, ?_⟩
      rcases ho with ⟨h1, h2⟩ | ⟨k, i, h1, h2⟩
      · exact .inl ⟨h1, h2, by omega⟩
      · exact .inr ⟨k, i, h1, h2, by omega⟩)
  clear hW t0 t1 u0 u1
  subst hw2
  go_enter Tryz.func36, Tryz.ntmps36
  go_wp2_with (go_at_call 38; refine hA.mono ?_; rintro e w5 ⟨r, rfl, w6, ⟨⟨⟨t, ht6, hr⟩, hb6⟩, hs6⟩, hb5⟩; have c5 := (hb5.block (w.heap.size + 1) (by simp)).trans ht6; have q5 := topc c5)
  have hT : t = (printT s).1 ∧ (r.getD (0, 0)).1 = (printT s).2.1 ∧ (r.getD (0, 0)).2 = (printT s).2.2 := by
    unfold printT
    split at hr
    · obtain ⟨rfl, rfl⟩ := hr; exact ⟨rfl, rfl, rfl⟩
    · obtain ⟨rfl, rfl⟩ := hr; exact ⟨rfl, rfl, rfl⟩
  rw [← hT.1, ← hT.2.1, ← hT.2.2]
  exact bodyPost_ret (v := .tuple #[.string t, .int .i64 (r.getD (0, 0)).1, .int .i64 (r.getD (0, 0)).2]) (by simp [results, Tryz.results36, go_sem]) rfl ⟨rfl, (b2.trans (b4.mono (by simp; omega))).trans ((hb6.mono (by omega)).trans (hb5.mono (by simp; omega)))⟩

end Go.Proofs.YtiohpcnnpmnjhaaGreatDoor
