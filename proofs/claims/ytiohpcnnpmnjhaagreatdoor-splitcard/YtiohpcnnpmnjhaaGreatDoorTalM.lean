import Derived.Test.YtiohpcnnpmnjhaaGreatDoorArnM
namespace Go.Proofs.YtiohpcnnpmnjhaaGreatDoor
open Go.RowKit Go.Shelf Go.WideMaps Go.Maps
open Go.ChangeMaps (setBlock heap_setBlock_same heap_setBlock_other)
set_option linter.unusedVariables false
attribute [local go_sem] Oper.semAt_some

theorem arrC : ArrKey Tryz.prog 113 3 2 := ⟨Tryz.underlying113, by kernel_rfl, by kernel_rfl, by kernel_rfl⟩
theorem posC : 0 < Tryz.prog.types.size := of_decide_eq_true (by kernel_rfl)
theorem sizC : ∃ m, Tryz.prog.types.size = m + 1 := ⟨Tryz.prog.types.size - 1, by have := posC; omega⟩
theorem lawC : KeyLaw Tryz.prog 113 := arrC.law
theorem keyC : Keyed Tryz.prog 113 := Keyed.of_law lawC
theorem zeroI (u : World) : (zeroValue 3).run Tryz.prog u = .ok (.int .i64 0) u := by kernel_rfl
/-- The number is one of the machine's. -/
def Is64 (x : Int) : Prop := -9223372036854775808 ≤ x ∧ x ≤ 9223372036854775807
theorem wf64 {x : Int} (h : Is64 x) : (Lit.int .i64 x).wf = true := WalkArith.wf_i64 h
theorem key64 {c : Cel} (hx : Is64 c.1) (hy : Is64 c.2) : ∃ kl, keyOf Tryz.prog 113 (kcell c) = some kl := ⟨_, keyOf_pair arrC Tryz.underlying3 sizC (wf64 hx) (wf64 hy)⟩

/-- The map at b counts f. -/
def Counts (w : World) (b n : Nat) (f : Cel → Option Int) : Prop := ∃ D : DataW Unit, w.ownsMap Tryz.prog 113 (plainElem Tryz.prog 3) b n D ∧ Reads Tryz.prog 113 D f
theorem Counts.lt {w : World} {b n : Nat} {f : Cel → Option Int} (h : Counts w b n f) : b < w.heap.size := by obtain ⟨D, h, _⟩ := h; exact h.lt
theorem Counts.same {w w' : World} {b n : Nat} {f : Cel → Option Int} (h : Counts w b n f) (e : w'.heap[b]? = w.heap[b]?) : Counts w' b n f := by
  obtain ⟨D, h, hr⟩ := h
  exact ⟨D, ownsMap_of_block h e, hr⟩
theorem Counts.not_cells {w : World} {b n : Nat} {f : Cel → Option Int} (h : Counts w b n f) {cs : Array Value} {t : TypeId} {fz : Nat × Nat} {k : Nat} (hk : w.heap[k]? = some (.cells cs t fz)) : k ≠ b := by
  obtain ⟨D, ⟨es, clock, hb, _⟩, _⟩ := h
  intro e; subst e; rw [hb] at hk; cases hk
theorem setBlock_other (w : World) (b : Nat) (o : Obj) {k : Nat} (h : k ≠ b) : (setBlock w b o).heap[k]? = w.heap[k]? := by
  simp [setBlock, Array.getElem?_setIfInBounds_ne (Ne.symm h)]
theorem setBlock_size (w : World) (b : Nat) (o : Obj) : (setBlock w b o).heap.size = w.heap.size := by simp [setBlock]
theorem setBlock_cell (w : World) (b : Nat) (o : Obj) {k j : Nat} (h : k ≠ b) : (setBlock w b o).cell? ⟨k, j, none⟩ = w.cell? ⟨k, j, none⟩ := by simp [World.cell?, setBlock_other w b o h]

theorem setBlock_set (w : World) (b : Nat) (o o' : Obj) : setBlock (setBlock w b o) b o' = setBlock w b o' := by simp [setBlock]
/-- What one round on the map does: the entry of c is found, or made, and then set. -/
theorem counts_entry {w : World} {b n : Nat} {f : Cel → Option Int} (h : Counts w b n f) (hn : n < 100000000) {c : Cel} (hx : Is64 c.1) (hy : Is64 c.2) :
    ∃ (v : Int) (st : Nat) (o1 : Obj), v = (f c).getD 0 ∧ (Instr.lookup 187 (.map (some b)) (kcell c) false).run Tryz.prog w = .ok (.int .i64 v) w ∧
      (Instr.mapEntry 187 (.map (some b)) (kcell c)).run Tryz.prog w = .ok (.tuple #[.int .i64 v, .int .i64 (st : Int)]) (setBlock w b o1) ∧
      (Instr.lookup 187 (.map (some b)) (kcell c) false).run Tryz.prog (setBlock w b o1) = .ok (.int .i64 v) (setBlock w b o1) ∧
      ∀ x : Int, Is64 x → ∃ o2, (Instr.entryStore 187 (.map (some b)) (.int .i64 (st : Int)) (.int .i64 x)).run Tryz.prog (setBlock w b o1) = .ok () (setBlock w b o2) ∧ Counts (setBlock w b o2) b (n + 1) (putF f c x) := by
  have hm : n < maxLen := by unfold maxLen; omega
  obtain ⟨D, hown, hR⟩ := h
  obtain ⟨kl, hkl⟩ := key64 hx hy
  obtain ⟨v, st, o1, hrun, hone, hat, hst⟩ := ownsMap_entry lawC Tryz.underlying187 Tryz.underlying3 zeroI hown hm hkl
  obtain ⟨v', hl, hat', _⟩ := hown.lookup_int keyC Tryz.underlying187 Tryz.underlying3 (zeroI w) hkl
  rw [hat] at hat'; cases hat'
  obtain ⟨v', hl1, hat1, _⟩ := hone.lookup_int keyC Tryz.underlying187 Tryz.underlying3 (zeroI _) hkl
  rw [atKey_put_same hR.map (keyC.key hkl)] at hat1
  cases hat1
  have hv := (hR.at_ c kl hkl).2
  rw [hat] at hv; cases hv
  refine ⟨_, st, o1, rfl, hl, hrun, hl1, fun x hx' => ?_⟩
  have ho1 : (setBlock w b o1).heap[b]? = some o1 := by
    have := hown.lt
    simp [setBlock, this]
  obtain ⟨o2, hs2, ho2⟩ := hst (setBlock w b o1) x (wf64 hx') ho1
  rw [setBlock_set] at hs2 ho2
  exact ⟨o2, hs2, _, ho2, hR.put keyC hkl x⟩

section
variable {F : Fence} {nF : Nat} {P : Program} (w : World) {ops : Array Oper} {rest : List Oper} {o : Oper} {a : Act} {Q : Exit → Act → World → Prop}
/-- A map is cleared. -/
theorem wpListIn_clear_own (hg : o.guard = none) (m : Operand) (t k : TypeId) (hop : o.op = Op.call { callee := Callee.builtin Builtin.clear, args := #[m], argTypes := #[t] })
    (e : TypeId) (ht : P.underlying t = some (.map k e)) (b n : Nat) (D : DataW Unit) (R : Value → Option (DataW Unit × List MemPlace))
    (hm : a.eval m = .map (some b)) (hown : w.ownsMap P k R b n D)
    (hK : ∀ w', w'.ownsMap P k R b 0 (.map []) → w.grownBy w' (some b) → w'.heap.size = w.heap.size → wpListIn F nF P ops Q rest (a.put o.dst (.tuple #[])) w') :
    wpListIn F nF P ops Q (o :: rest) a w := by
  obtain ⟨es, clock, hb, Ft, hs, rfl⟩ := hown
  have hlt : b < w.heap.size := (Array.getElem?_eq_some_iff.1 hb).1
  obtain ⟨c', w', hrun, hw'⟩ : ∃ c' w', (Builtin.clear_ #[t] o.type #[.map (some b)]).run P w = .ok (.tuple #[]) w' ∧ w' = setBlock w b (.map #[] c') := by
    refine ⟨clock, _, ?_, rfl⟩
    simp [Builtin.clear_, run_underlying ht, MapKept.run_getObj_map hb, MapKept.run_setObj_map _ hb, Result.andThen]
    rfl
  subst hw'
  refine wpListIn_plain hg fun K' hK' => ?_
  unfold Oper.wpIn
  refine ⟨by simp [Oper.about, hop, resolve, Target.leads, Sem.run_pure], ?_⟩
  rw [Oper.semAt_plain F _ _ (by rw [hop]; intro c hc'; cases hc')]
  simp [execOp, hop, resolve, invoke, builtin, hm, hrun, Result.andThen]
  refine hK' _ _ (hK _ ⟨#[], c', by simp [setBlock, hlt], ⟨by simp, MapKept.stamped_empty c', by simp⟩, Nat.le_refl _, rfl⟩ ⟨rfl, rfl, rfl, by simp [setBlock], fun i _ hi => setBlock_other w b _ (fun e => hi (by rw [e]))⟩ (setBlock_size w b _))
end

end Go.Proofs.YtiohpcnnpmnjhaaGreatDoor

namespace Go.Proofs.YtiohpcnnpmnjhaaGreatDoor
open Go.RowKit Go.Shelf Go.WideMaps Go.Maps
open Go.ChangeMaps (setBlock heap_setBlock_same heap_setBlock_other)
set_option linter.unusedVariables false
attribute [local go_sem] Oper.semAt_some

theorem Counts.mono {w : World} {b n m : Nat} {f : Cel → Option Int} (h : Counts w b n f) (hm : n ≤ m) : Counts w b m f := by
  obtain ⟨D, h, hr⟩ := h
  exact ⟨D, h.mono hm, hr⟩
theorem grown_b {w W W' : World} {b : Nat} (h : w.grownBy W (some b)) (k : W.grownBy W' (some b)) : w.grownBy W' (some b) := h.trans k

/-- What the outer rounds leave. -/
structure OInv (w : World) (b s : Nat) (vp : Value) (pre : List Cel) (W : World) : Prop where
  bm : W.heap[s]? = some (.cells #[.map (some b)] 187 (0, 0))
  b1 : W.heap[s + 1]? = some (.cells #[vp] 71 (0, 0))
  b2 : W.heap[s + 2]? = some (.cells #[.int .i64 0, .int .i64 0] 113 (0, 0))
  gr : w.grownBy W (some b)
  ct : Counts W b (10 * pre.length) (countF pre)

set_option maxRecDepth 100000 in
set_option maxHeartbeats 1600000 in
theorem tally_in (a : Option Addr) (cp b nn g : Nat) (C : List Cel) (D0 : DataW Unit) (w : World) (hrow : C = [] ∨ (a = some ⟨g, 0, none⟩ ∧ CellsAt w g C ∧ g < w.heap.size)) (hg : g < w.heap.size)
    (hm : w.ownsMap Tryz.prog 113 (plainElem Tryz.prog 3) b nn D0) (hB : ∀ c ∈ C, (-4000000000000000000 ≤ c.1 ∧ c.1 ≤ 4000000000000000000) ∧ (-4000000000000000000 ≤ c.2 ∧ c.2 ≤ 4000000000000000000)) (hl : C.length ≤ 1000) :
    CallsIn Fence.wide 9 Tryz.prog 139 #[.slice a C.length cp, .map (some b)] w fun e w' => e = .returned (.tuple #[]) ∧ w.grownBy w' (some b) ∧ Counts w' b (10 * C.length) (countF C) := by
  have hbl := hm.lt
  have hmix : Tryz.prog.follows .mixedOrders = true := by kernel_rfl
  refine callsIn_of_wp_marks Tryz.func139 rfl trivial ?_ rfl
  simp only [Tryz.ntmps139, List.size_toArray, List.length_cons, List.length_nil, Nat.reduceAdd, Nat.reduceSub, Array.replicate_succ, Array.replicate_zero, List.push_toArray, List.append_toArray, List.nil_append, List.cons_append]
  gi_wp2_with (first
    | (refine wpListIn_clear_own _ rfl (Operand.tmp 6) 187 113 rfl 3 Tryz.underlying187 b nn D0 _ rfl (hm.alloc _) ?_; intro w1 ho1 hg1 hs1)
    | (refine ⟨trivial, ?_⟩; gi_at_call 96; refine (callsIn_wide.2 (cells_any a C.length cp _)).mono ?_; rintro e w2 ⟨rfl, rfl⟩))
  have hs : w1.heap.size = w.heap.size + 1 := by simpa using hs1
  have hnb : w.heap.size ≠ b := by omega
  have t0 : w1.heap[w.heap.size]? = some (.cells #[.map (some b)] 187 (0, 0)) := (hg1.block w.heap.size (by simp) (fun e => hnb (by cases e; rfl))).trans (blk_new w _)
  have gw1 : w.grownBy w1 (some b) := (World.grownBy_alloc w _ _).trans hg1
  have t1 : ((w1.alloc (.cells #[.slice a C.length cp] 71)).alloc (.cells #[.int .i64 0, .int .i64 0] 113)).heap[w.heap.size + 1]? = some (.cells #[.slice a C.length cp] 71 (0, 0)) := by
    have := blk_old (blk_new w1 (.cells #[.slice a C.length cp] 71)) (.cells #[.int .i64 0, .int .i64 0] 113)
    rwa [hs] at this
  have t2 : ((w1.alloc (.cells #[.slice a C.length cp] 71)).alloc (.cells #[.int .i64 0, .int .i64 0] 113)).heap[w.heap.size + 2]? = some (.cells #[.int .i64 0, .int .i64 0] 113 (0, 0)) := by
    have := blk_new (w1.alloc (.cells #[.slice a C.length cp] 71)) (.cells #[.int .i64 0, .int .i64 0] 113)
    rwa [World.size_alloc, hs] at this
  have t3 := blk_old (blk_old t0 (.cells #[.slice a C.length cp] 71)) (.cells #[.int .i64 0, .int .i64 0] 113)
  have c0 : Counts ((w1.alloc (.cells #[.slice a C.length cp] 71)).alloc (.cells #[.int .i64 0, .int .i64 0] 113)) b 0 (fun _ => none) := ⟨_, (ho1.alloc _).alloc _, Reads.empty _ _⟩
  have g0 : w.grownBy ((w1.alloc (.cells #[.slice a C.length cp] 71)).alloc (.cells #[.int .i64 0, .int .i64 0] 113)) (some b) := (gw1.trans (World.grownBy_alloc w1 _ _)).trans (World.grownBy_alloc _ _ _)
  have z0 : ((w1.alloc (.cells #[.slice a C.length cp] 71)).alloc (.cells #[.int .i64 0, .int .i64 0] 113)).heap.size = w.heap.size + 3 := by simp [hs]
  have hgb : C = [] ∨ g ≠ b := by
    by_cases hCn : C = []
    · exact .inl hCn
    refine .inr fun e => ?_
    obtain ⟨_, hc, _⟩ := hrow.resolve_left hCn
    subst e
    obtain ⟨es, clock, hb', _⟩ := hm
    cases C with
    | nil => exact absurd rfl hCn
    | cons c r =>
      have := (hc.get 0 c rfl).1
      simp [World.cell?, hb'] at this
  clear hg1 hs1 ho1 gw1 t0
  generalize ((w1.alloc (.cells #[.slice a C.length cp] 71)).alloc (.cells #[.int .i64 0, .int .i64 0] 113)) = W0 at *
  clear hs
  replace z0 : w.heap.size + 3 ≤ W0.heap.size := by omega
  have hrow0 : C = [] ∨ (a = some ⟨g, 0, none⟩ ∧ CellsAt W0 g C ∧ g < W0.heap.size) := by
    rcases hrow with h | ⟨h1, h2, h3⟩
    · exact .inl h
    · rcases hgb with h | h
      · exact .inl h
      · exact .inr ⟨h1, h2.same (g0.block g h3 (fun e => h (by cases e; rfl))), by omega⟩
  refine wpIn_rangeFunc_ownH (encs := fun c : OfC 0 0 C => encC c.1) (N := C.length) (S := fun xs : List (OfC 0 0 C) => xs.map (·.1) = C.map (sh 0 0)) (Sp := fun pre : List (OfC 0 0 C) => pre.map (·.1) <+: C.map (sh 0 0)) (Kp := KpG g (w.heap.size + 1)) rfl (by omega) (gf := 131) (lb := #[.pointer (some ⟨w.heap.size + 1, 0, none⟩), .pointer (some ⟨w.heap.size + 1 + 1, 0, none⟩)]) rfl trivial (enters_of Tryz.func131 (by kernel_rfl) rfl) ?seq KpG.trans ?kb (Below.refl _ _) (fun _ => rfl)
    (fun pre W => OInv w b w.heap.size (.slice a C.length cp) (pre.map (·.1)) W)
    (fun _ _ _ => False) ?hI (fun _ _ _ _ _ h _ _ => h) ?h0
    (fun c a' W => ∃ Bx, W.heap[Bx]? = some (.cells #[.int .i64 c.1.1, .int .i64 c.1.2] 113 (0, 0)) ∧ w.heap.size + 2 < Bx ∧ a' = { tmps := #[.slice a C.length cp, .map (some b), undef, .pointer (some ⟨w.heap.size, 0, none⟩), .pointer (some ⟨Bx, 0, none⟩), undef, .map (some b), .slice a C.length cp, .func (.func 131) #[] #[.pointer (some ⟨w.heap.size + 1, 0, none⟩), .pointer (some ⟨w.heap.size + 1 + 1, 0, none⟩)], .agg #[.int .i64 c.1.1, .int .i64 c.1.2], undef, undef, undef, undef, undef, undef, undef, undef, undef, undef, undef, undef, undef, undef, undef], defers := [] }) ?hAx ?assign ?body ?done ?stop
  case seq => exact movedG_stops 8 (by omega) a cp (w.heap.size + 1) g 0 0 C W0 hrow0 (by omega) (fun c hc => by have := hB c hc; omega) t1 t2
  case kb =>
    intro W l o o' hlt hl2 ho hw
    exact ⟨World.putObj_heap_other (by omega), World.putObj_heap_other (by omega), World.putObj_heap_other (by omega), by simp⟩
  case hI =>
    rintro pre W W' row ⟨h1, h2, h3, h4, h5⟩ hgr hr
    have hrb : some b ≠ row := fun e => by have := (hr b e.symm).1; omega
    exact ⟨keepc h1 hgr hr, keepc h2 hgr hr, keepc h3 hgr hr, ⟨hgr.os.trans h4.os, hgr.tape.trans h4.tape, hgr.output.trans h4.output, Nat.le_trans h4.size hgr.size, fun k hk hne => (hgr.block k (by have := h4.size; omega) (fun e => by have := (hr k e.symm).1; omega)).trans (h4.block k hk hne)⟩, h5.same (hgr.block b h5.lt hrb)⟩
  case h0 => exact ⟨t3, t1, t2, g0, c0⟩
  case hAx =>
    rintro c a' _ W W' row ⟨Bx, hx, hne, ha⟩ hgr hr
    exact ⟨Bx, keepc hx hgr hr, hne, ha⟩
  case assign =>
    rintro l pre ⟨c, hc⟩ W K ⟨h1, h2, h3, h4, h5⟩ hK
    simp only [encC]
    gi_wp2
    have hWs : w.heap.size + 2 < W.heap.size := blk_lt h3
    refine hK _ _ ((KeepsOthers.alloc _ _).from _) ⟨?_, Below.heap_alloc W _ _ (blk_lt h2), Below.heap_alloc W _ _ (blk_lt h3), by simp⟩ ⟨blk_old h1 _, blk_old h2 _, blk_old h3 _, h4.trans (World.grownBy_alloc W _ _), h5.same (Below.heap_alloc W _ _ h5.lt)⟩ ⟨W.heap.size, blk_new W _, hWs, rfl⟩
    exact Below.heap_alloc W _ _ (by omega)
  case body =>
    rintro l pre ⟨⟨px, py⟩, hp⟩ a' W hl0 ⟨r0, hlr⟩ ⟨h1, h2, h3, h4, h5⟩ ⟨Bx, ex, hne, rfl⟩ hpl
    simp only at ex
    have hmem : (px, py) ∈ C := by simpa [sh_zero] using hp
    obtain ⟨hbx, hby⟩ := hB _ hmem
    simp only at hbx hby
    have q0 := cell_of h1 0
    have e0 := cell_of ex 0
    have e1 := cell_of ex 1
    have hpl' : (pre.map (·.1)).length < 1000 := by simp; omega
    obtain ⟨v, st, o1, hv, hl1, hme, hl2, hst⟩ := counts_entry (w := W.drew) (h5.same rfl) (by omega) (c := (px, py)) ⟨by omega, by omega⟩ ⟨by omega, by omega⟩
    have hvb : 0 ≤ v ∧ v ≤ 1000 := by
      have h := (countF_is (px, py) _ (pre.map (·.1)) rfl).2
      have hle : nbC (pre.map (·.1)) (px, py) ≤ (pre.map (·.1)).length := List.countP_le_length
      omega
    obtain ⟨o2, hes, hc2⟩ := hst v ⟨by omega, by omega⟩
    have HV : Hid (v = (countF (pre.map (·.1)) (px, py)).getD 0) := hv
    clear hv hst
    simp only [kcell] at hl1 hme hl2 hes
    have hw0 : IntKind.i64.wrap v = v := by simp [IntKind.wrap, IntKind.bits, IntKind.signed]; omega
    have hBl := blk_lt ex
    have hBb : Bx ≠ b := by omega
    obtain ⟨W2, hW2⟩ : ∃ W2, setBlock W.drew b o2 = W2 := ⟨_, rfl⟩
    rw [hW2] at hes hc2
    have k2 : ∀ k, k ≠ b → W2.heap[k]? = W.heap[k]? := fun k hk => by rw [← hW2]; exact setBlock_other W.drew b o2 hk
    have hXs : W.heap.size ≤ W2.heap.size := by rw [← hW2]; exact Nat.le_of_eq (setBlock_size W.drew b o2).symm
    have gr2 : W.grownBy W2 (some b) := by rw [← hW2]; exact ⟨rfl, rfl, rfl, by simp [setBlock], fun i _ hi => setBlock_other W.drew b _ (fun e => hi (by rw [e]))⟩
    clear hW2
    have m1 := (k2 _ (by omega)).trans h1
    have m2 := (k2 _ (by omega)).trans h2
    have m3 := (k2 _ (by omega)).trans h3
    have mx := (k2 _ hBb).trans ex
    gi_wp2
    refine wpIn_mono (Q := fun e a' w' => e = .normal ∧ a' = { tmps := #[.slice a C.length cp, .map (some b), undef, .pointer (some ⟨w.heap.size, 0, none⟩), .pointer (some ⟨Bx, 0, none⟩), undef, .map (some b), .slice a C.length cp, .func (.func 131) #[] #[.pointer (some ⟨w.heap.size + 1, 0, none⟩), .pointer (some ⟨w.heap.size + 1 + 1, 0, none⟩)], .agg #[.int .i64 px, .int .i64 py], .map (some b), .agg #[.int .i64 px, .int .i64 py], .int .i64 v, .int .i64 v, .tuple #[.int .i64 v, .int .i64 (st : Int)], .int .i64 (st : Int), undef, undef, undef, undef, undef, undef, undef, undef, undef], defers := [] } ∧ w' = W2) ?_ ?_
    · gi_region_with_o (fail)
      all_goals exact ⟨rfl, rfl, rfl⟩
    rintro e a' X ⟨rfl, rfl, rfl⟩
    clear hl1 hme hl2 hes q0 e0 e1
    have q0 := cell_of m1 0
    have e0 := cell_of mx 0
    have e1 := cell_of mx 1
    gi_wp2_with (refine ⟨trivial, ?_⟩; gi_at_call 159; refine (CallsIn.inRound l (callsIn_wide.2 (neighbours_any px py _))).mono ?_; rintro e w3 ⟨rfl, rfl⟩)
    clear q0 e0 e1
    have hlb : l ≠ b := by omega
    have hll : l < X.heap.size := Nat.lt_of_lt_of_le (blk_lt hlr) hXs
    have f1b : ∀ x : Cel, 0 ≤ (putF (countF (pre.map (·.1))) (px, py) v x).getD 0 ∧ (putF (countF (pre.map (·.1))) (px, py) v x).getD 0 ≤ 1000 := fun x => by
      unfold putF
      split
      · simpa using hvb
      · have h := (countF_is x _ (pre.map (·.1)) rfl).2
        have hle : nbC (pre.map (·.1)) x ≤ (pre.map (·.1)).length := List.countP_le_length
        omega
    have hf1 : Hid (putF (countF (pre.map (·.1))) (px, py) v = touch (countF (pre.map (·.1))) (px, py)) := by
      show _ = _
      unfold touch
      rw [← HV.out]
    obtain ⟨f1, hf⟩ : ∃ f1, putF (countF (pre.map (·.1))) (px, py) v = f1 := ⟨_, rfl⟩
    rw [hf] at f1b hc2 hf1
    clear hf HV
    obtain ⟨n0, hn0⟩ : ∃ n0, 10 * (pre.map (·.1)).length + 1 = n0 := ⟨_, rfl⟩
    have hn0b : n0 ≤ 10001 := by omega
    rw [hn0] at hc2
    have HN : Hid (10 * (pre.map (·.1)).length + 1 = n0) := hn0
    clear hn0
    refine wpIn_rangeFunc_ownN (encs := fun c : NearC (px, py) => encN c.1) (N := 9) (S := fun xs : List (NearC (px, py)) => xs.map (·.1) = eight (px, py)) (Sp := fun _ => True) (Kp := KpN 0 X.heap.size) (l₀ := l) (r₀ := r0) rfl ((Below.heap_alloc X _ _ hll).trans ((k2 l hlb).trans hlr)) (by omega) (gf := 169) (lb := #[.pointer (some ⟨X.heap.size, 0, none⟩)]) rfl trivial (enters_of Tryz.func169 (by kernel_rfl) rfl)
      (SeqStopsK.inRound l (neighbours_stops 6 (by omega) X.heap.size 0 px py hbx hby _ (Nat.zero_le _) (blk_new X _))) KpN.trans ?kb2 (Below.refl _ _) (fun _ => rfl)
      (fun q Y => W.grownBy Y (some b) ∧ Y.heap[X.heap.size]? = some (.cells #[.int .i64 px, .int .i64 py] 113 (0, 0)) ∧ Counts Y b (n0 + q.length) ((q.map (·.1)).foldl bump f1))
      (fun _ _ _ => False) ?hI2 (fun _ _ _ _ _ h _ _ => h) ?h02
      (fun c a' Y => ∃ By, Y.heap[By]? = some (.cells #[.int .i64 c.1.1, .int .i64 c.1.2] 113 (0, 0)) ∧ X.heap.size < By ∧ a' = { tmps := #[.slice a C.length cp, .map (some b), undef, .pointer (some ⟨w.heap.size, 0, none⟩), .pointer (some ⟨Bx, 0, none⟩), .pointer (some ⟨By, 0, none⟩), .map (some b), .slice a C.length cp, .func (.func 131) #[] #[.pointer (some ⟨w.heap.size + 1, 0, none⟩), .pointer (some ⟨w.heap.size + 1 + 1, 0, none⟩)], .agg #[.int .i64 px, .int .i64 py], .map (some b), .agg #[.int .i64 px, .int .i64 py], .int .i64 v, .int .i64 v, .tuple #[.int .i64 v, .int .i64 (st : Int)], .int .i64 (st : Int), .agg #[.int .i64 px, .int .i64 py], .func (.func 169) #[] #[.pointer (some ⟨X.heap.size, 0, none⟩)], .agg #[.int .i64 c.1.1, .int .i64 c.1.2], undef, undef, undef, undef, undef, undef], defers := [] }) ?hAx2 ?assign2 ?body2 ?done2 ?stop2
    case kb2 =>
      intro Y l' o o' hlt hl2 ho hw
      have hl' : X.heap.size + 1 ≤ l' := by simpa using hlt
      exact ⟨⟨rfl, rfl, rfl, by simp, fun k hk => by omega⟩, World.putObj_heap_other (by omega)⟩
    case hI2 =>
      rintro q Y Y' row ⟨g1, g2, g3⟩ hgr hr
      have hXl : (X.alloc (.cells #[.int .i64 px, .int .i64 py] 113)).heap.size = X.heap.size + 1 := by simp
      have hrb : some b ≠ row := fun e => by have := (hr b e.symm).1; omega
      exact ⟨⟨hgr.os.trans g1.os, hgr.tape.trans g1.tape, hgr.output.trans g1.output, Nat.le_trans g1.size hgr.size, fun k hk hne => (hgr.block k (by have := g1.size; omega) (fun e => by have := (hr k e.symm).1; omega)).trans (g1.block k hk hne)⟩, keepc g2 hgr hr, g3.same (hgr.block b g3.lt hrb)⟩
    case h02 => exact ⟨gr2.trans (World.grownBy_alloc X _ _), blk_new X _, by simpa using hc2.same (Below.heap_alloc X _ _ hc2.lt)⟩
    case hAx2 =>
      rintro c a' _ Y Y' row ⟨By, hx, hne', ha⟩ hgr hr
      exact ⟨By, keepc hx hgr hr, hne', ha⟩
    case assign2 =>
      rintro l' q ⟨c, hc⟩ Y K ⟨g1, g2, g3⟩ hK
      simp only [encN]
      gi_wp2
      exact hK _ _ ((KeepsOthers.alloc _ _).from _) ⟨(Below.refl _ Y).alloc (Nat.zero_le _) _, Below.heap_alloc Y _ _ (blk_lt g2)⟩ ⟨g1.trans (World.grownBy_alloc Y _ _), blk_old g2 _, g3.same (Below.heap_alloc Y _ _ g3.lt)⟩ ⟨Y.heap.size, blk_new Y _, blk_lt g2, rfl⟩
    case body2 =>
      rintro l' q ⟨⟨cx, cy⟩, hcq⟩ a' Y hl0' hlr' ⟨g1, g2, g3⟩ ⟨By, ey, hney, rfl⟩ hql
      simp only at ey
      have hca := mem_around.1 (mem_eight.1 hcq).1
      simp only at hca
      have n1 := (g1.block _ (blk_lt h1) (fun e => by cases e; omega)).trans h1
      have q0 := cell_of n1 0
      have e0 := cell_of ey 0
      have e1 := cell_of ey 1
      obtain ⟨u, su, p1, hu, hk1, hk2, hk3, hkt⟩ := counts_entry (w := Y.drew) (g3.same rfl) (by omega) (c := (cx, cy)) ⟨by omega, by omega⟩ ⟨by omega, by omega⟩
      have hub : 0 ≤ u ∧ u ≤ 1009 := by
        have hb1 := f1b (cx, cy)
        have hcl : (q.map (·.1)).count (cx, cy) ≤ (q.map (·.1)).length := List.count_le_length
        simp only [List.length_map] at hcl
        rw [hu, bumps]
        split
        · simp only [Option.getD_some]; omega
        · omega
      obtain ⟨p2, hks, hkc⟩ := hkt (u + 1) ⟨by omega, by omega⟩
      have HU : Hid (u = (((q.map (·.1)).foldl bump f1) (cx, cy)).getD 0) := hu
      clear hu hkt
      simp only [kcell] at hk1 hk2 hk3 hks
      have hw1 : IntKind.i64.wrap (u + 1) = u + 1 := by simp [IntKind.wrap, IntKind.bits, IntKind.signed]; omega
      have hYb : By ≠ b := by omega
      obtain ⟨Y2, hY2⟩ : ∃ Y2, setBlock Y.drew b p2 = Y2 := ⟨_, rfl⟩
      rw [hY2] at hks hkc
      have k3 : ∀ k, k ≠ b → Y2.heap[k]? = Y.heap[k]? := fun k hk => by rw [← hY2]; exact setBlock_other Y.drew b p2 hk
      have gr3 : Y.grownBy Y2 (some b) := by rw [← hY2]; exact ⟨rfl, rfl, rfl, by simp [setBlock], fun i _ hi => setBlock_other Y.drew b _ (fun e => hi (by rw [e]))⟩
      clear hY2
      gi_wp2
      refine wpIn_mono (Q := fun e a' w' => e = .normal ∧ w' = Y2) ?_ ?_
      · gi_region_with_o (fail)
        all_goals exact ⟨rfl, rfl⟩
      rintro e a' Y3 ⟨rfl, rfl⟩
      clear hk1 hk2 hk3 hks q0 e0 e1
      gi_wp2
      have hXl : (X.alloc (.cells #[.int .i64 px, .int .i64 py] 113)).heap.size = X.heap.size + 1 := by simp
      refine ⟨⟨gr3.size, fun k o hB' hk ho => (gr3.block k (blk_lt hk) (fun e => by cases e; omega)).trans hk⟩, ⟨⟨gr3.os, gr3.tape, gr3.output, gr3.size, fun k hk => by omega⟩, k3 _ (by omega)⟩, g1.trans gr3, (k3 _ (by omega)).trans g2, ?_⟩
      have hfold : List.foldl bump f1 ((q ++ [(⟨(cx, cy), hcq⟩ : NearC (px, py))]).map (·.1)) = putF (List.foldl bump f1 (q.map (·.1))) (cx, cy) (u + 1) := by
        rw [List.map_append, List.foldl_append, HU.out]
        rfl
      rw [hfold]
      exact hkc.mono (by simp; omega)
    case done2 =>
      rintro xs Y hS ⟨g1, g2, g3⟩
      rw [hS, hf1.out, ← countF_snoc] at g3
      have hxl : xs.length ≤ 9 := by
        have := congrArg List.length hS
        have h9 := eightTo_len (px, py) 9
        simp only [List.length_map] at this
        unfold eight at this
        omega
      gi_wp2
      have hCn : C ≠ [] := fun e => by have h0 := congrArg List.length e; rw [List.length_nil] at h0; omega
      have hgb' := hgb.resolve_left hCn
      have hgW : g < W.heap.size := Nat.lt_of_lt_of_le hg h4.size
      have v1 := g1.block _ (blk_lt h1) (fun e => by cases e; omega)
      have v2 := g1.block _ (blk_lt h2) (fun e => by cases e; omega)
      have v3 := g1.block _ (blk_lt h3) (fun e => by cases e; omega)
      refine ⟨⟨g1.size, fun k o hB' hk ho => (g1.block k (blk_lt hk) (fun e => by cases e; omega)).trans hk⟩, ⟨g1.block g hgW (fun e => hgb' (by cases e; rfl)), v2, v3, g1.size⟩, ⟨v1.trans h1, v2.trans h2, v3.trans h3, h4.trans g1, ?_⟩⟩
      have hpm : (pre ++ [(⟨(px, py), hp⟩ : OfC 0 0 C)]).map (·.1) = pre.map (·.1) ++ [(px, py)] := by simp
      rw [hpm]
      exact g3.mono (by have := HN.out; simp at this ⊢; omega)
    case stop2 =>
      intro c q Y hs hx
      exact hx.elim
  case done =>
    rintro D xs W hD hS ⟨h1, h2, h3, h4, h5⟩ hK
    rw [hS, sh_zero, List.map_id] at h5
    gi_wp2
    refine ⟨by simp, .inl ⟨_, _, rfl, run_takeDeferred hK, ?_⟩⟩
    have hDb : b ≠ D := by omega
    exact ⟨.tuple #[], by simp [results, Tryz.results139, go_sem], rfl, ⟨h4.os, h4.tape, h4.output, by simpa using h4.size, fun k hk hne => (World.putObj_heap_other (by omega)).trans (h4.block k hk hne)⟩, h5.same (World.putObj_heap_other hDb)⟩
  case stop =>
    intro D c pre W hD hs hx
    exact hx.elim

end Go.Proofs.YtiohpcnnpmnjhaaGreatDoor
