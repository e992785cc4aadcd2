import Derived.Test.YtiohpcnnpmnjhaaDoorSpans
import Derived.Test.YtiohpcnnpmnjhaaDoorBlk
namespace Go.Proofs.YtiohpcnnpmnjhaaDoor
open Go.RowKit Go.Shelf
set_option linter.unusedVariables false
attribute [local go_sem] Oper.semAt_some

/-- One span is written: where the pen is then, and the bytes. -/
def segGo (cx : Int) (st : (Int × Int) × List UInt8) (s : Span) : (Int × Int) × List UInt8 :=
  ((s.1 + s.2.2, s.2.1), st.2 ++ (if st.1.2 < s.2.1 then runB (s.2.1 - st.1.2).toNat 36 ++ runB (s.1 - cx).toNat 98 else runB (s.1 - st.1.1).toNat 98) ++ runB s.2.2.toNat 111)
def segRun (cx cy : Int) (l : List Span) : (Int × Int) × List UInt8 := l.foldl (segGo cx) ((cx, cy), [])
theorem segRun_snoc (cx cy : Int) (l : List Span) (s : Span) : segRun cx cy (l ++ [s]) = segGo cx (segRun cx cy l) s := by simp [segRun]
/-- The two numbers ahead. -/
def headB (cx cy : Int) : List UInt8 := Lib.itoa cx ++ [32] ++ Lib.itoa cy ++ [32]
/-- The program's plain text. -/
def plainB (C : List Cel) : List UInt8 := headB (cornP C).1 (cornP C).2 ++ (segRun (cornP C).1 (cornP C).2 (segs C)).2 ++ [33]

set_option maxHeartbeats 400000 in
theorem spans_any (a : Option Addr) (n c : Nat) (w : World) :
    Calls Tryd.prog 20 #[.slice a n c] w fun e w' => e = .returned (.func (.func 35) #[] #[.pointer (some ⟨w.heap.size, 0, none⟩)]) ∧ w' = w.alloc (.cells #[.slice a n c] 35) := by
  have hmf : ∀ (fn : Fn) (first cap : Array Value) (w : World), (Instr.makeFunc fn first cap).run Tryd.prog w = .ok (.func fn first cap) w := fun _ _ _ _ => rfl
  go_enter Tryd.func20, Tryd.ntmps20
  go_wp2
  go_ret
  exact ⟨rfl, rfl⟩

theorem buf_form {w : World} {B : Nat} {v : Value} {l : List UInt8} (h : Buf w B v l) (hl : 0 < l.length) : ∃ g cap, v = .slice (some ⟨g, 0, none⟩) l.length cap := by
  rcases h.2 with ⟨_, h0⟩ | ⟨g, cap, _, rfl, _⟩
  · omega
  · exact ⟨g, cap, rfl⟩


/-- Blocks of cells abide what turns other blocks alone. -/
theorem keepb {W W' : World} {row : Option Nat} {B N : Nat} {v : Value} {l : List UInt8} (h : Buf W N v l) (hg : W.grownBy W' row) (hr : ∀ r, row = some r → B ≤ r ∧ ∃ o : Obj, W.heap[r]? = some o ∧ o.isCells = false) : Buf W' N v l := by
  obtain ⟨h1, h2⟩ := h
  refine ⟨h1, ?_⟩
  rcases h2 with h2 | ⟨g, cap, cur, hv, hgb, hh, r⟩
  · exact .inl h2
  · exact .inr ⟨g, cap, cur, hv, hgb, keepc hh hg hr, r⟩

set_option maxRecDepth 100000 in
set_option maxHeartbeats 1000000 in
theorem spans1_nil (n : Nat) (l Bs vc : Nat) (a : Option Addr) {α : Type} (J : List α → World → Prop) (W : World) (hBs : W.cell? ⟨Bs, 0, none⟩ = some (.slice a 0 vc)) (h0 : J [] W) :
    CallsIn Fence.wide n Tryd.prog 35 #[.func (.yield l) #[] #[], .pointer (some ⟨Bs, 0, none⟩)] W fun e W' => (∃ v, e = .returned v) ∧ J [] W' := by
  refine callsIn_of_wp Tryd.func35 rfl trivial ?_ rfl
  simp only [Tryd.ntmps35, List.size_toArray, List.length_cons, List.length_nil, Nat.reduceAdd, Nat.reduceSub, Array.replicate_succ, Array.replicate_zero, List.push_toArray, List.append_toArray, List.nil_append, List.cons_append]
  gi_wp2
  gi_loopw [3] (fun i wr => i = .int .i64 0 ∧ wr = W) (fun _ _ => 0)
  case atStart => exact ⟨rfl, rfl⟩
  case round =>
    obtain ⟨rfl, rfl⟩ := hrel
    gi_wp2
    go_end0
    exact ⟨⟨_, rfl⟩, h0⟩

theorem spans_stops (X0 Y0 : Int) (a : Option Addr) (vc Bs n₀ : Nat) (C : List Cel) (w w0 : World) (own : w.ownsRow 0 53 2 (.slice a C.length vc) C.length (flatC C)) (hl : C.length ≤ 100) (hC : ∀ c ∈ C, inWin X0 Y0 c) (hX : -3000000000000000000 ≤ X0) (hX' : X0 ≤ 3000000000000000000)
    (hn : n₀ = w.heap.size) (hb : Below w.heap.size w w0) (hBs : w0.heap[Bs]? = some (.cells #[.slice a C.length vc] 35 (0, 0))) :
    SeqStopsK Fence.wide 4 Tryd.prog 35 #[.pointer (some ⟨Bs, 0, none⟩)] (encSeg (X0 := X0) (Y0 := Y0)) (KpB n₀ Bs) (fun xs => xs.map (·.1) = segs C) (fun _ => True) C.length w0 := fun l J Jx W hW hJ hJx hY h0 => by
  subst hn
  have hBs' : W.heap[Bs]? = some (.cells #[.slice a C.length vc] 35 (0, 0)) := (hW.block Bs (blk_lt hBs)).trans hBs
  rcases cells_cases own with ⟨hv, rfl⟩ | ⟨g, cap, hv, hS, hg⟩
  · exact (spans1_nil 4 l Bs vc a J W (cell_of hBs' 0) h0).mono fun e W' ⟨he, hj⟩ => ⟨he, .inl ⟨[], rfl, hj⟩⟩
  · cases hv
    have hc := (hS.below hb hg).below (hW.mono hb.size) hg
    refine (spans1_in 4 (by omega) l Bs w.heap.size g vc X0 Y0 C hC hX hX' hl hg J Jx W hJ hY (Nat.le_trans hb.size hW.size) hBs' hc h0).mono ?_
    rintro e W' ⟨he, ⟨xs, hx, hj⟩ | ⟨pre, hj⟩⟩
    · exact ⟨he, .inl ⟨xs, hx, hj⟩⟩
    · exact ⟨he, .inr ⟨pre, trivial, hj⟩⟩


set_option maxRecDepth 100000 in
set_option maxHeartbeats 800000 in
theorem appendRun_int (B : Nat) (v : Value) (l : List UInt8) (z : Int) (c : UInt8) (k : Int) (w : World) (hck : (c.toNat : Int) = k) (hb : Buf w B v l) (hB : B ≤ w.heap.size) (ht : Tab B w) (hl : l.length + 5 * z.toNat ≤ 100000000000000) :
    Calls Tryd.prog 21 #[v, .int .i64 z, .int .u8 k] w fun e w' => (∃ v', e = .returned v' ∧ Buf w' B v' (l ++ runB z.toNat c)) ∧ Kept B w w' := by
  subst hck
  by_cases h : 0 ≤ z
  · have := appendRun_nat B v l z.toNat c w hb hB ht hl
    rwa [Int.toNat_of_nonneg h] at this
  · have hz : z.toNat = 0 := by omega
    rw [hz, runB_zero, List.append_nil]
    have hn : ¬ 0 < z := by omega
    go_enter Tryd.func21, Tryd.ntmps21
    go_wp2
    go_loopg [0, 1] 0 (fun g vo vc wr => vc = .int .i64 z ∧ vo = v ∧ wr = w)
    case atStart => exact ⟨rfl, rfl, rfl⟩
    case round =>
      obtain ⟨rfl, rfl, rfl⟩ := hrel
      go_wp2
      go_ret
      exact ⟨⟨_, rfl, hb⟩, Kept.refl _ _⟩

/-- Where the pen is, and how long the line. -/
def segOk (X0 Y0 : Int) (k : Nat) (st : (Int × Int) × List UInt8) : Prop := X0 ≤ st.1.1 ∧ st.1.1 ≤ X0 + 20000100 ∧ Y0 ≤ st.1.2 ∧ st.1.2 ≤ Y0 + 20000000 ∧ st.2.length ≤ k * 400000000
theorem segOk_step {X0 Y0 cx cy : Int} (hc : inWin X0 Y0 (cx, cy)) {k : Nat} {st : (Int × Int) × List UInt8} (h : segOk X0 Y0 k st) {s : Span} (hs : okSeg X0 Y0 s) : segOk X0 Y0 (k + 1) (segGo cx st s) := by
  obtain ⟨⟨h1, h2, h3, h4⟩, h5, h6⟩ := hs
  obtain ⟨g1, g2, g3, g4, g5⟩ := h
  obtain ⟨k1, k2, k3, k4⟩ := hc
  simp only at *
  refine ⟨by simp only [segGo]; omega, by simp only [segGo]; omega, by simp only [segGo]; omega, by simp only [segGo]; omega, ?_⟩
  have l1 := runB_len (s.2.1 - st.1.2).toNat 36
  have l2 := runB_len (s.1 - cx).toNat 98
  have l3 := runB_len (s.1 - st.1.1).toNat 98
  have l4 := runB_len s.2.2.toNat 111
  simp only [segGo]
  split <;> simp only [List.length_append] <;> omega
theorem segOk_all {X0 Y0 cx cy : Int} (hc : inWin X0 Y0 (cx, cy)) : ∀ (l : List (Seg X0 Y0)) (k : Nat) (st : (Int × Int) × List UInt8), segOk X0 Y0 k st → segOk X0 Y0 (k + l.length) ((l.map (·.1)).foldl (segGo cx) st)
  | [], k, st, h => h
  | s :: l, k, st, h => by
    have := segOk_all hc l (k + 1) _ (segOk_step hc h s.2)
    simp only [List.map_cons, List.foldl_cons, List.length_cons]
    rw [show k + (l.length + 1) = k + 1 + l.length by omega]
    exact this
theorem segRun_ok {X0 Y0 cx cy : Int} (hc : inWin X0 Y0 (cx, cy)) (l : List (Seg X0 Y0)) : segOk X0 Y0 l.length (segRun cx cy (l.map (·.1))) := by
  have := segOk_all hc l 0 ((cx, cy), []) (by obtain ⟨k1, k2, k3, k4⟩ := hc; simp only at *; exact ⟨k1, by simp only; omega, k3, by simp only; omega, by simp⟩)
  rwa [Nat.zero_add] at this

/-- What the rounds leave. -/
def PInv {X0 Y0 : Int} (w : World) (c3 c4 c5 : Nat) (cx cy : Int) (bx : Value) (pre : List (Seg X0 Y0)) (W : World) : Prop :=
  W.heap[c3]? = some (.cells #[.int .i64 cx, .int .i64 cy] 53 (0, 0)) ∧ (∃ v, W.heap[c4]? = some (.cells #[v] 55 (0, 0)) ∧ Buf W w.heap.size v (headB cx cy ++ (segRun cx cy (pre.map (·.1))).2)) ∧
  W.heap[c5]? = some (.cells #[.int .i64 (segRun cx cy (pre.map (·.1))).1.1, .int .i64 (segRun cx cy (pre.map (·.1))).1.2] 53 (0, 0)) ∧ W.heap[c5 + 1]? = some (.cells #[bx] 35 (0, 0)) ∧ Below w.heap.size w W

theorem buf_set {W : World} {B b j : Nat} {cs : Array Value} {t : TypeId} {fz : Nat × Nat} {v : Value} {l : List UInt8} (hb : Buf W B v l) (h : W.heap[b]? = some (.cells cs t fz)) (ht : t ≠ 5) (u : Value) : Buf (W.setCell ⟨b, j, none⟩ u) B v l := by
  obtain ⟨h1, h2⟩ := hb
  refine ⟨h1, ?_⟩
  rcases h2 with h2 | ⟨g, cap, cur, hv, hgb, hh, r⟩
  · exact .inl h2
  · refine .inr ⟨g, cap, cur, hv, hgb, blk_set hh (fun e => ?_) u, r⟩
    simp only at e
    subst e
    rw [h] at hh; cases hh; exact ht rfl

theorem Kept.keeps {B : Nat} {W W' : World} (h : Kept B W W') (n : Nat) : KeepsFrom n W W' :=
  ⟨h.be.size, fun k o _ hk ho => h.ok k o hk (by simp) (fun c f e => by subst e; cases ho)⟩

theorem segs_len : ∀ C : List Cel, (segs C).length ≤ C.length
  | [] => by simp [segs]
  | (x, y) :: r => by
    have ih := segs_len r
    rw [segs]
    split
    · simp
    · rename_i x' y' n q h
      rw [h] at ih
      split <;> simp at * <;> omega

theorem buf_text {w : World} {B g cap : Nat} {l : List UInt8} (h : Buf w B (.slice (some ⟨g, 0, none⟩) l.length cap) l) : (convert 55 9 (.slice (some ⟨g, 0, none⟩) l.length cap)).run Tryd.prog w = .ok (.string ⟨l.toArray⟩) w :=
  run_convert_bytes_back w _ _ 5 ⟨g, 0, none⟩ cap l Tryd.underlying55 Tryd.underlying5 Tryd.underlying9 fun j hj =>
    World.ownsRow.cells h rfl j _ (by simp [Lib.byteCells, List.getElem?_eq_getElem hj])

end Go.Proofs.YtiohpcnnpmnjhaaDoor
