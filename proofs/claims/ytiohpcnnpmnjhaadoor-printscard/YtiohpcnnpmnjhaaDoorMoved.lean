import Derived.Test.YtiohpcnnpmnjhaaDoorKeep
namespace Go.Proofs.YtiohpcnnpmnjhaaDoor
open Go.RowKit Go.Shelf
set_option linter.unusedVariables false
attribute [local go_sem] Oper.semAt_some

/-- A cell as an iterator gives it out. -/
def encC (c : Cel) : Array Value := #[.agg #[.int .i64 c.1, .int .i64 c.2]]
/-- What a round keeps: what lies below n, and the boxes b and b + 1. -/
structure Kp2 (n b : Nat) (W W' : World) : Prop where
  be : Below n W W'
  bx : W'.heap[b]? = W.heap[b]?
  bz : W'.heap[b + 1]? = W.heap[b + 1]?
theorem Kp2.trans {n b : Nat} {X Y Z : World} (h : Kp2 n b X Y) (k : Kp2 n b Y Z) : Kp2 n b X Z := ⟨h.be.trans k.be, k.bx.trans h.bx, k.bz.trans h.bz⟩

set_option maxRecDepth 100000 in
set_option maxHeartbeats 1600000 in
theorem moved1_in (n : Nat) (hn : 2 ≤ n) (l Bs n₀ g cap : Nat) (dx dy : Int) (C : List Cel) (hF : Fits dx dy C) (hl : C.length ≤ 1000000) (hg : g < n₀)
    (J Jx : List Cel → World → Prop) (W : World) (hJ : AbidesFrom W.heap.size J)
    (hY : ∀ pre x W1, J pre W1 → pre.length < C.length → YieldAt Fence.wide (n - 1) Tryd.prog l (encC x) W1 fun e W' => (e = .returned (.bool true) ∧ J (pre ++ [x]) W' ∧ Kp2 n₀ Bs W1 W') ∨ (e = .returned (.bool false) ∧ Jx (pre ++ [x]) W'))
    (hn0 : n₀ ≤ W.heap.size) (hBs : W.heap[Bs]? = some (.cells #[.slice (some ⟨g, 0, none⟩) C.length cap] 35 (0, 0))) (hBy : W.heap[Bs + 1]? = some (.cells #[.int .i64 dx, .int .i64 dy] 53 (0, 0))) (hc : CellsAt W g C) (h0 : J [] W) :
    CallsIn Fence.wide n Tryd.prog 54 #[.func (.yield l) #[] #[], .pointer (some ⟨Bs, 0, none⟩), .pointer (some ⟨Bs + 1, 0, none⟩)] W fun e W' => (∃ v, e = .returned v) ∧ (J (C.map (sh dx dy)) W' ∨ (∃ pre, pre <+: C.map (sh dx dy) ∧ Jx pre W')) := by
  have h1n : 1 ≤ n := by omega
  have hnot : ∀ (x : Bool) (w : World), (Op.unary .not (.bool x)).run Tryd.prog w = .ok (.bool (!x)) w := fun _ _ => rfl
  have cB0 := cell_of hBs 0
  refine callsIn_of_wp Tryd.func54 rfl trivial ?_ rfl
  simp only [Tryd.ntmps54, List.size_toArray, List.length_cons, List.length_nil, Nat.reduceAdd, Nat.reduceSub, Array.replicate_succ, Array.replicate_zero, List.push_toArray, List.append_toArray, List.nil_append, List.cons_append]
  gi_wp2
  gi_loopw [8] (fun i wr => ∃ k : Nat, k ≤ C.length ∧ i = .int .i64 k ∧ J ((C.take k).map (sh dx dy)) wr ∧ Kp2 n₀ Bs W wr ∧ W.heap.size ≤ wr.heap.size) (fun i _ => C.length - (intOf i).toNat)
  case atStart => exact ⟨0, Nat.zero_le _, rfl, by simpa using h0, ⟨Below.refl _ _, rfl, rfl⟩, Nat.le_refl _⟩
  case round =>
    obtain ⟨k, hk, rfl, hJs, hkp, hsz⟩ := hrel
    have hb2 := hkp.bz.trans hBy
    have q0 := cell_of hb2 0
    have q1 := cell_of hb2 1
    by_cases hlt : k < C.length
    · obtain ⟨⟨x, y⟩, hs⟩ : ∃ s, C[k]? = some s := ⟨C[k], by simp [hlt]⟩
      obtain ⟨d0, d1⟩ := (hc.below hkp.be hg).get k _ hs
      simp only at d0 d1
      have hf := hF (x, y) (List.mem_of_getElem? hs)
      simp only at hf
      have hgl : g < wr.heap.size := by omega
      have hBl : Bs + 1 < wr.heap.size := blk_lt hb2
      have hbz : Below wr.heap.size wr (wr.alloc (.cells #[.int .i64 x, .int .i64 y] 53)) := (Below.refl _ _).alloc (Nat.le_refl _) _
      have HT : Hid ((C.take (k + 1)).map (sh dx dy) = (C.take k).map (sh dx dy) ++ [sh dx dy (x, y)]) := by
        show _ = _
        rw [List.take_add_one, hs]; simp
      obtain ⟨fn, tmps, assign, body, hy, hR⟩ := hY _ (sh dx dy (x, y)) _ (hJ _ wr _ none hJs (grown_of_below hbz) (fun r e => by cases e)) (by simp; omega)
      dsimp only [encC, sh] at hy
      clear hs
      gi_wp2
      refine hR.mono ?_
      rintro e W3 (⟨rfl, hJ3, hk3⟩ | ⟨rfl, hJx3⟩)
      · gi_wp2
        go_roundw
        case rel => exact ⟨k + 1, by omega, by go_num, by rw [HT.out]; exact hJ3, hkp.trans (Kp2.trans ⟨hbz.mono (by omega), hbz.block Bs (by omega), hbz.block (Bs + 1) hBl⟩ hk3), by have := hbz.size; have := hk3.be.size; omega⟩
        case measure => simp [intOf]; omega
      · gi_wp2
        refine bodyPost_ret (results_none rfl _ _ _) rfl ?_
        exact ⟨⟨_, rfl⟩, .inr ⟨_, by rw [← HT.out]; exact (List.take_prefix _ _).map _, hJx3⟩⟩
    · have hk' : k = C.length := by omega
      subst hk'
      rw [List.take_length] at hJs
      gi_wp2
      go_end0
      exact ⟨⟨_, rfl⟩, .inl hJs⟩

set_option maxRecDepth 100000 in
set_option maxHeartbeats 1000000 in
theorem moved1_nil (n : Nat) (l Bs vc : Nat) (p : Value) (a : Option Addr) {α : Type} (J : List α → World → Prop) (W : World) (hBs : W.cell? ⟨Bs, 0, none⟩ = some (.slice a 0 vc)) (h0 : J [] W) :
    CallsIn Fence.wide n Tryd.prog 54 #[.func (.yield l) #[] #[], .pointer (some ⟨Bs, 0, none⟩), p] W fun e W' => (∃ v, e = .returned v) ∧ J [] W' := by
  refine callsIn_of_wp Tryd.func54 rfl trivial ?_ rfl
  simp only [Tryd.ntmps54, List.size_toArray, List.length_cons, List.length_nil, Nat.reduceAdd, Nat.reduceSub, Array.replicate_succ, Array.replicate_zero, List.push_toArray, List.append_toArray, List.nil_append, List.cons_append]
  gi_wp2
  gi_loopw [8] (fun i wr => i = .int .i64 0 ∧ wr = W) (fun _ _ => 0)
  case atStart => exact ⟨rfl, rfl⟩
  case round =>
    obtain ⟨rfl, rfl⟩ := hrel
    gi_wp2
    go_end0
    exact ⟨⟨_, rfl⟩, h0⟩

/-- The iterator over a pattern's cells, moved, as a range over it asks. -/
theorem moved_stops_pre (n : Nat) (hn : 2 ≤ n) (a : Option Addr) (vc Bs n₀ : Nat) (dx dy : Int) (C : List Cel) (w w0 : World) (own : w.ownsRow 0 53 2 (.slice a C.length vc) C.length (flatC C)) (hl : C.length ≤ 1000000) (hF : Fits dx dy C)
    (hn' : n₀ = w.heap.size) (hb : Below w.heap.size w w0) (hBs : w0.heap[Bs]? = some (.cells #[.slice a C.length vc] 35 (0, 0))) (hBy : w0.heap[Bs + 1]? = some (.cells #[.int .i64 dx, .int .i64 dy] 53 (0, 0))) :
    SeqStopsK Fence.wide n Tryd.prog 54 #[.pointer (some ⟨Bs, 0, none⟩), .pointer (some ⟨Bs + 1, 0, none⟩)] encC (Kp2 n₀ Bs) (fun xs => xs = C.map (sh dx dy)) (fun pre => pre <+: C.map (sh dx dy)) C.length w0 := fun l J Jx W hW hJ hJx hY h0 => by
  subst hn'
  have hBs' : W.heap[Bs]? = some (.cells #[.slice a C.length vc] 35 (0, 0)) := (hW.block Bs (blk_lt hBs)).trans hBs
  have hBy' : W.heap[Bs + 1]? = some (.cells #[.int .i64 dx, .int .i64 dy] 53 (0, 0)) := (hW.block (Bs + 1) (blk_lt hBy)).trans hBy
  rcases cells_cases own with ⟨hv, rfl⟩ | ⟨g, cap, hv, hS, hg⟩
  · exact (moved1_nil n l Bs vc _ a J W (cell_of hBs' 0) h0).mono fun e W' ⟨he, hj⟩ => ⟨he, .inl ⟨[], rfl, hj⟩⟩
  · cases hv
    have hc := (hS.below hb hg).below (hW.mono hb.size) hg
    refine (moved1_in n hn l Bs w.heap.size g vc dx dy C hF hl hg J Jx W hJ hY (Nat.le_trans hb.size hW.size) hBs' hBy' hc h0).mono ?_
    rintro e W' ⟨he, hj | ⟨pre, hp, hj⟩⟩
    · exact ⟨he, .inl ⟨_, rfl, hj⟩⟩
    · exact ⟨he, .inr ⟨pre, hp, hj⟩⟩
theorem moved_stops (n : Nat) (hn : 2 ≤ n) (a : Option Addr) (vc Bs n₀ : Nat) (dx dy : Int) (C : List Cel) (w w0 : World) (own : w.ownsRow 0 53 2 (.slice a C.length vc) C.length (flatC C)) (hl : C.length ≤ 1000000) (hF : Fits dx dy C)
    (hn' : n₀ = w.heap.size) (hb : Below w.heap.size w w0) (hBs : w0.heap[Bs]? = some (.cells #[.slice a C.length vc] 35 (0, 0))) (hBy : w0.heap[Bs + 1]? = some (.cells #[.int .i64 dx, .int .i64 dy] 53 (0, 0))) :
    SeqStopsK Fence.wide n Tryd.prog 54 #[.pointer (some ⟨Bs, 0, none⟩), .pointer (some ⟨Bs + 1, 0, none⟩)] encC (Kp2 n₀ Bs) (fun xs => xs = C.map (sh dx dy)) (fun _ => True) C.length w0 := fun l J Jx W hW hJ hJx hY h0 =>
  (moved_stops_pre n hn a vc Bs n₀ dx dy C w w0 own hl hF hn' hb hBs hBy l J Jx W hW hJ hJx hY h0).mono fun e W' ⟨he, h⟩ => ⟨he, h.imp id fun ⟨pre, _, hj⟩ => ⟨pre, trivial, hj⟩⟩

set_option maxHeartbeats 400000 in
theorem moved_any (a : Option Addr) (n c : Nat) (dx dy : Int) (w : World) :
    Calls Tryd.prog 44 #[.slice a n c, .agg #[.int .i64 dx, .int .i64 dy]] w fun e w' => e = .returned (.func (.func 54) #[] #[.pointer (some ⟨w.heap.size, 0, none⟩), .pointer (some ⟨w.heap.size + 1, 0, none⟩)]) ∧ w' = (w.alloc (.cells #[.slice a n c] 35)).alloc (.cells #[.int .i64 dx, .int .i64 dy] 53) := by
  have hmf : ∀ (fn : Fn) (first cap : Array Value) (w : World), (Instr.makeFunc fn first cap).run Tryd.prog w = .ok (.func fn first cap) w := fun _ _ _ _ => rfl
  go_enter Tryd.func44, Tryd.ntmps44
  go_wp2
  go_ret
  exact ⟨rfl, rfl⟩

set_option maxHeartbeats 400000 in
theorem cells_any (a : Option Addr) (n c : Nat) (w : World) :
    Calls Tryd.prog 33 #[.slice a n c] w fun e w' => e = .returned (.func (.func 54) #[] #[.pointer (some ⟨w.heap.size, 0, none⟩), .pointer (some ⟨w.heap.size + 1, 0, none⟩)]) ∧ w' = (w.alloc (.cells #[.slice a n c] 35)).alloc (.cells #[.int .i64 0, .int .i64 0] 53) := by
  go_enter Tryd.func33, Tryd.ntmps33
  go_wp2_with (go_at_call 44; refine (moved_any a n c 0 0 _).mono ?_; rintro e w1 ⟨rfl, rfl⟩)
  go_ret
  exact ⟨rfl, rfl⟩

end Go.Proofs.YtiohpcnnpmnjhaaDoor
