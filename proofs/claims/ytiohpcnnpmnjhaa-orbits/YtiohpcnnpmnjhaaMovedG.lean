import Derived.Test.YtiohpcnnpmnjhaaMovedM
namespace Go.Proofs.Ytiohpcnnpmnjhaa
open Go.RowKit Go.Shelf
set_option linter.unusedVariables false
attribute [local go_sem] Oper.semAt_some

/-- What a round keeps: the row's block g, and the boxes b and b + 1. -/
structure KpG (g b : Nat) (W W' : World) : Prop where
  bg : W'.heap[g]? = W.heap[g]?
  bx : W'.heap[b]? = W.heap[b]?
  bz : W'.heap[b + 1]? = W.heap[b + 1]?
  sz : W.heap.size ≤ W'.heap.size
theorem KpG.trans {g b : Nat} {X Y Z : World} (h : KpG g b X Y) (k : KpG g b Y Z) : KpG g b X Z := ⟨k.bg.trans h.bg, k.bx.trans h.bx, k.bz.trans h.bz, Nat.le_trans h.sz k.sz⟩
theorem CellsAt.same {w w' : World} {g : Nat} {C : List Cel} (h : CellsAt w g C) (e : w'.heap[g]? = w.heap[g]?) : CellsAt w' g C :=
  ⟨fun j u hu => by
    have := h.at_ j u hu
    simp only [World.cell?] at this ⊢
    rw [e]; exact this⟩

set_option maxRecDepth 100000 in
set_option maxHeartbeats 1600000 in
theorem movedG_in (n : Nat) (hn : 2 ≤ n) (l Bs g cap : Nat) (dx dy : Int) (C : List Cel) (hF : Fits dx dy C) (hl : C.length ≤ 1000000)
    (J Jx : List Cel → World → Prop) (W : World) (hJ : AbidesFrom W.heap.size J)
    (hY : ∀ pre x W1, J pre W1 → x ∈ C.map (sh dx dy) → pre.length < C.length → YieldAt Fence.wide (n - 1) Try.prog l (encC x) W1 fun e W' => (e = .returned (.bool true) ∧ J (pre ++ [x]) W' ∧ KpG g Bs W1 W') ∨ (e = .returned (.bool false) ∧ Jx (pre ++ [x]) W'))
    (hgs : g < W.heap.size) (hBs : W.heap[Bs]? = some (.cells #[.slice (some ⟨g, 0, none⟩) C.length cap] 65 (0, 0))) (hBy : W.heap[Bs + 1]? = some (.cells #[.int .i64 dx, .int .i64 dy] 99 (0, 0))) (hc : CellsAt W g C) (h0 : J [] W) :
    CallsIn Fence.wide n Try.prog 81 #[.func (.yield l) #[] #[], .pointer (some ⟨Bs, 0, none⟩), .pointer (some ⟨Bs + 1, 0, none⟩)] W fun e W' => (∃ v, e = .returned v) ∧ (J (C.map (sh dx dy)) W' ∨ (∃ pre, pre <+: C.map (sh dx dy) ∧ Jx pre W')) := by
  have h1n : 1 ≤ n := by omega
  have hnot : ∀ (x : Bool) (w : World), (Op.unary .not (.bool x)).run Try.prog w = .ok (.bool (!x)) w := fun _ _ => rfl
  have cB0 := cell_of hBs 0
  refine callsIn_of_wp Try.func81 rfl trivial ?_ rfl
  simp only [Try.ntmps81, List.size_toArray, List.length_cons, List.length_nil, Nat.reduceAdd, Nat.reduceSub, Array.replicate_succ, Array.replicate_zero, List.push_toArray, List.append_toArray, List.nil_append, List.cons_append]
  gi_wp2
  gi_loopw [8] (fun i wr => ∃ k : Nat, k ≤ C.length ∧ i = .int .i64 k ∧ J ((C.take k).map (sh dx dy)) wr ∧ KpG g Bs W wr ∧ W.heap.size ≤ wr.heap.size) (fun i _ => C.length - (intOf i).toNat)
  case atStart => exact ⟨0, Nat.zero_le _, rfl, by simpa using h0, ⟨rfl, rfl, rfl, Nat.le_refl _⟩, Nat.le_refl _⟩
  case round =>
    obtain ⟨k, hk, rfl, hJs, hkp, hsz⟩ := hrel
    have hb2 := hkp.bz.trans hBy
    have q0 := cell_of hb2 0
    have q1 := cell_of hb2 1
    by_cases hlt : k < C.length
    · obtain ⟨⟨x, y⟩, hs⟩ : ∃ s, C[k]? = some s := ⟨C[k], by simp [hlt]⟩
      obtain ⟨d0, d1⟩ := (hc.same hkp.bg).get k _ hs
      simp only at d0 d1
      have hf := hF (x, y) (List.mem_of_getElem? hs)
      simp only at hf
      have hgl : g < wr.heap.size := by omega
      have hBl : Bs + 1 < wr.heap.size := blk_lt hb2
      have hbz : Below wr.heap.size wr (wr.alloc (.cells #[.int .i64 x, .int .i64 y] 99)) := (Below.refl _ _).alloc (Nat.le_refl _) _
      have HT : Hid ((C.take (k + 1)).map (sh dx dy) = (C.take k).map (sh dx dy) ++ [sh dx dy (x, y)]) := by
        show _ = _
        rw [List.take_add_one, hs]; simp
      obtain ⟨fn, tmps, assign, body, hy, hR⟩ := hY _ (sh dx dy (x, y)) _ (hJ _ wr _ none hJs (grown_of_below hbz) (fun r e => by cases e)) (List.mem_map.2 ⟨(x, y), List.mem_of_getElem? hs, rfl⟩) (by simp; omega)
      dsimp only [encC, sh] at hy
      clear hs
      gi_wp2
      refine hR.mono ?_
      rintro e W3 (⟨rfl, hJ3, hk3⟩ | ⟨rfl, hJx3⟩)
      · gi_wp2
        go_roundw
        case rel => exact ⟨k + 1, by omega, by go_num, by rw [HT.out]; exact hJ3, hkp.trans (KpG.trans ⟨hbz.block g hgl, hbz.block Bs (by omega), hbz.block (Bs + 1) hBl, hbz.size⟩ hk3), by have := hbz.size; have := hk3.sz; omega⟩
        case measure => simp [intOf]; omega
      · gi_wp2
        refine bodyPost_ret (results_none rfl _ _ _) rfl ?_
        exact ⟨⟨_, rfl⟩, .inr ⟨_, by rw [← HT.out]; exact (List.take_prefix _ _).map _, hJx3⟩⟩
    · have hk' : k = C.length := by omega
      subst hk'
      rw [List.take_length] at hJs
      gi_wp2
      go_end0
      exact ⟨⟨_, rfl⟩, .inl hJs⟩

/-- One of a pattern's cells, moved. -/
abbrev OfC (dx dy : Int) (C : List Cel) := { c : Cel // c ∈ C.map (sh dx dy) }
/-- The iterator over a pattern's cells, moved, as a range over it asks: what a round keeps is the row and the boxes alone. -/
theorem movedG_stops (n : Nat) (hn : 2 ≤ n) (a : Option Addr) (vc Bs g : Nat) (dx dy : Int) (C : List Cel) (w0 : World) (hrow : C = [] ∨ (a = some ⟨g, 0, none⟩ ∧ CellsAt w0 g C ∧ g < w0.heap.size)) (hl : C.length ≤ 1000000) (hF : Fits dx dy C)
    (hBs : w0.heap[Bs]? = some (.cells #[.slice a C.length vc] 65 (0, 0))) (hBy : w0.heap[Bs + 1]? = some (.cells #[.int .i64 dx, .int .i64 dy] 99 (0, 0))) :
    SeqStopsK Fence.wide n Try.prog 81 #[.pointer (some ⟨Bs, 0, none⟩), .pointer (some ⟨Bs + 1, 0, none⟩)] (fun c : OfC dx dy C => encC c.1) (KpG g Bs) (fun xs => xs.map (·.1) = C.map (sh dx dy)) (fun pre => pre.map (·.1) <+: C.map (sh dx dy)) C.length w0 := fun l J Jx W hW hJ hJx hY h0 => by
  have hBs' : W.heap[Bs]? = some (.cells #[.slice a C.length vc] 65 (0, 0)) := (hW.block Bs (blk_lt hBs)).trans hBs
  have hBy' : W.heap[Bs + 1]? = some (.cells #[.int .i64 dx, .int .i64 dy] 99 (0, 0)) := (hW.block (Bs + 1) (blk_lt hBy)).trans hBy
  rcases hrow with rfl | ⟨rfl, hS, hg⟩
  · exact (moved1_nil n l Bs vc _ a J W (cell_of hBs' 0) h0).mono fun e W' ⟨he, hj⟩ => ⟨he, .inl ⟨[], rfl, hj⟩⟩
  · have hc := hS.below hW hg
    refine (movedG_in n hn l Bs g vc dx dy C hF hl (fun pre W => ∃ q : List (OfC dx dy C), q.map (·.1) = pre ∧ J q W) (fun pre W => ∃ q : List (OfC dx dy C), q.map (·.1) = pre ∧ Jx q W) W
      (fun s A B row ⟨q, hq, hj⟩ hg hr => ⟨q, hq, hJ q A B row hj hg hr⟩) ?_ (Nat.lt_of_lt_of_le hg hW.size) hBs' hBy' hc ⟨[], rfl, h0⟩).mono ?_
    · rintro pre c W1 ⟨q, hq, hj⟩ hc hlen
      refine (hY q ⟨c, hc⟩ W1 hj (by rw [← hq] at hlen; simpa using hlen)).mono ?_
      rintro e W' (⟨he, hj', hk⟩ | ⟨he, hj'⟩)
      · exact .inl ⟨he, ⟨q ++ [⟨c, hc⟩], by simp [hq], hj'⟩, hk⟩
      · exact .inr ⟨he, q ++ [⟨c, hc⟩], by simp [hq], hj'⟩
    rintro e W' ⟨he, ⟨q, hq, hj⟩ | ⟨pre, hp, q, hq, hj⟩⟩
    · exact ⟨he, .inl ⟨q, hq, hj⟩⟩
    · exact ⟨he, .inr ⟨q, by subst hq; exact hp, hj⟩⟩

end Go.Proofs.Ytiohpcnnpmnjhaa
