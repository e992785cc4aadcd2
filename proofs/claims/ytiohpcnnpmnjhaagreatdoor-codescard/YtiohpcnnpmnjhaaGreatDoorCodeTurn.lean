import Derived.Test.YtiohpcnnpmnjhaaGreatDoorCodeOf
import Derived.Test.YtiohpcnnpmnjhaaGreatDoorTakeR
import Derived.Test.YtiohpcnnpmnjhaaGreatDoorRangeN
namespace Go.Proofs.YtiohpcnnpmnjhaaGreatDoor
open Go.RowKit Go.Shelf
set_option linter.unusedVariables false
attribute [local go_sem] Oper.semAt_some

theorem turned_fn (a : Option Addr) (n c : Nat) (w : World) :
    Calls Tryz.prog 85 #[.slice a n c] w fun e w' => e = .returned (.func (.func 108) #[] #[.pointer (some ⟨w.heap.size, 0, none⟩)]) ∧ w' = w.alloc (.cells #[.slice a n c] 71) := by
  have hmf : ∀ (fn : Fn) (first cap : Array Value) (w : World), (Instr.makeFunc fn first cap).run Tryz.prog w = .ok (.func fn first cap) w := fun _ _ _ _ => rfl
  go_enter Tryz.func85, Tryz.ntmps85
  go_wp2
  go_ret
  exact ⟨rfl, rfl⟩

/-- The table of the eight ways. -/
def turnA : Array Value := wayA 0 ++ wayA 1 ++ wayA 2 ++ wayA 3 ++ wayA 4 ++ wayA 5 ++ wayA 6 ++ wayA 7
theorem infoTurn1 : (Tryz.prog.info? 171).map (·.size) = some 4 := by kernel_rfl
theorem infoTurn : (Tryz.prog.info? 172).map (·.size) = some turnA.size := by kernel_rfl
/-- The table's rows. -/
theorem way_at {TA : Array Value} (h : turnA = TA) (t : Nat) (ht : t < 8) : ∃ x1 x2 x3 x4 : Int, wayA t = #[.int .i64 x1, .int .i64 x2, .int .i64 x3, .int .i64 x4] ∧ ∀ w : World, (Instr.index 172 (.agg TA) (.int .i64 (t : Int))).run Tryz.prog w = .ok (.agg #[.int .i64 x1, .int .i64 x2, .int .i64 x3, .int .i64 x4]) w := by
  subst h
  have : t = 0 ∨ t = 1 ∨ t = 2 ∨ t = 3 ∨ t = 4 ∨ t = 5 ∨ t = 6 ∨ t = 7 := by omega
  rcases this with rfl | rfl | rfl | rfl | rfl | rfl | rfl | rfl
  · exact ⟨1, 0, 0, 1, rfl, fun w => by kernel_rfl⟩
  · exact ⟨-1, 0, 0, 1, rfl, fun w => by kernel_rfl⟩
  · exact ⟨1, 0, 0, -1, rfl, fun w => by kernel_rfl⟩
  · exact ⟨-1, 0, 0, -1, rfl, fun w => by kernel_rfl⟩
  · exact ⟨0, 1, 1, 0, rfl, fun w => by kernel_rfl⟩
  · exact ⟨0, -1, 1, 0, rfl, fun w => by kernel_rfl⟩
  · exact ⟨0, 1, -1, 0, rfl, fun w => by kernel_rfl⟩
  · exact ⟨0, -1, -1, 0, rfl, fun w => by kernel_rfl⟩
/-- What is said of a turned pattern that is given out. -/
def ElT (C : List Cel) (pre : List Value) (x : Value) (W : World) : Prop := pre.length < 8 ∧ W.ownsRow 0 113 2 x (imgL (turnC pre.length) C).length (flatC (imgL (turnC pre.length) C))
/-- What the iterator needs to be kept. -/
def KeptT : Obj → Prop
  | .cells _ t _ => t = 113 ∨ t = 71
  | .deferred _ => True
  | _ => False
structure KpT (W W' : World) : Prop where
  size : W.heap.size ≤ W'.heap.size
  same : ∀ (k : Nat) (o : Obj), W.heap[k]? = some o → KeptT o → W'.heap[k]? = some o

/-- A mark that a range over a function leaves behind. -/
def markD (D : Nat) : Deferred := { target := .collected D, args := #[] }
/-- The marks' blocks: each for itself, and empty. -/
def MarksOk (B : Nat) (Ds : List Nat) (W : World) : Prop := Ds.Nodup ∧ (∀ D ∈ Ds, W.heap[D]? = some (.deferred (some []))) ∧ ∀ D ∈ Ds, B ≤ D
theorem marks_nil (B : Nat) (W : World) : MarksOk B [] W := ⟨by simp, fun D h => by simp at h, fun D h => by simp at h⟩
/-- A function that leaves with marks alone. -/
theorem leaves_marks {F : Fence} {n : Nat} {P : Program} {fn : Func} {tmps : Array Value} {R : Ending → World → Prop} {B : Nat} : ∀ (Ds : List Nat) (W : World), MarksOk B Ds W → (∀ W', Ab B W W' → LeavesIn F n P fn tmps R [] .returning W') → LeavesInM F n P fn tmps R (Ds.map markD) .returning W
  | [], W, _, h => h W (Ab.refl _ _)
  | D :: Ds, W, hm, h => by
    have hD := hm.2.1 D (by simp)
    have hn := List.nodup_cons.1 hm.1
    have hb := hm.2.2 D (by simp)
    refine ⟨by simp, .inl ⟨D, _, rfl, run_takeDeferred hD, leaves_marks Ds _ ⟨hn.2, fun D' h' => ?_, fun D' h' => hm.2.2 D' (by simp [h'])⟩ fun W' hW' => h W' ((Ab.putObj hb hD rfl _).trans hW')⟩⟩
    exact (World.putObj_heap_other (fun e => hn.1 (by rw [← e]; exact h'))).trans (hm.2.1 D' (by simp [h']))

theorem KpT.trans {A B C : World} (h : KpT A B) (k : KpT B C) : KpT A C := ⟨Nat.le_trans h.size k.size, fun i o hi ho => k.same i o (h.same i o hi ho) ho⟩
theorem KpT.row {W W' : World} (h : KpT W W') {B n : Nat} {v : Value} {xs : List Value} (hr : W.ownsRow B 113 2 v n xs) : W'.ownsRow B 113 2 v n xs := by
  refine ⟨hr.1, hr.2.imp id ?_⟩
  rintro ⟨g, cap, cur, h1, h2, h3, h4⟩
  exact ⟨g, cap, cur, h1, h2, h.same _ _ h3 (.inl rfl), h4⟩
theorem KpT.marks {W W' : World} (h : KpT W W') {B : Nat} {Ds : List Nat} (hm : MarksOk B Ds W) : MarksOk B Ds W' := ⟨hm.1, fun D hD => h.same _ _ (hm.2.1 D hD) trivial, hm.2.2⟩
/-- The turned cells, sorted. -/
theorem sort_turned {C M : List Cel} {φ ψ : Cel → Cel} (hm : Mot φ ψ) (hp : M.Perm (C.map φ)) (ha : Asc M) : M = imgL φ C := by
  refine asc_unique ha (asc_imgL _ _) fun c => ?_
  rw [hp.mem_iff, List.mem_map, mem_imgL]
  exact ⟨fun ⟨d, hd, e⟩ => ⟨d, hd, e.symm⟩, fun ⟨d, hd, e⟩ => ⟨d, hd, e.symm⟩⟩
set_option maxRecDepth 100000 in
theorem sortT_any (B : Nat) (a : Option Addr) (n c t : Nat) (C : List Cel) (W : World) (hasc : Asc C) (hl : C.length ≤ 100) (own : W.ownsRow B 113 2 (.slice a n c) C.length (flatC (C.map (turnC t)))) :
    Calls Tryz.prog 110 #[.slice a n c, .func (.func 111) #[] #[]] W fun e w' => e = .returned (.tuple #[]) ∧ w'.ownsRow B 113 2 (.slice a n c) (imgL (turnC t) C).length (flatC (imgL (turnC t) C)) ∧ W.grownBy w' (Value.slice a n c).ownBlock := by
  obtain ⟨ψ, hm⟩ := mot_turn t
  have hlen : (C.map (turnC t)).length = C.length := List.length_map ..
  have hlen2 := hm.len hasc
  obtain ⟨ad, cp, hv⟩ := row_slice own
  cases hv
  rcases own.2 with ⟨hn, h0⟩ | ⟨g, cap, cur, hv, _⟩
  · have hC : C = [] := List.length_eq_zero_iff.1 h0
    subst hC
    cases hn
    exact (sort_none none 0 _ W).mono fun e w' ⟨he, hw⟩ => by subst hw; exact ⟨he, World.ownsRow_nil _ _ _ _, World.grownBy.refl _ _⟩
  · cases hv
    have hnd : (C.map (turnC t)).Nodup := by
      have := asc_nodup hasc
      unfold List.Nodup at *
      rw [List.pairwise_map]
      exact this.imp fun {a b} hab e => hab (hm.inj e)
    rw [← hlen] at own ⊢
    refine (sort_any B g c (C.map (turnC t)) W own hnd (by rw [hlen]; omega)).mono fun e w' h => ?_
    obtain ⟨he, M, hp, ha, ho, hg⟩ := h
    have hM := sort_turned hm hp ha
    subst hM
    refine ⟨he, ?_, hg⟩
    rw [hlen2, ← hlen]
    exact ho

/-- What the rounds leave that turn the cells one by one. -/
def TInv (wr : World) (φ : Cel → Cel) (x1 x2 x3 x4 : Int) (pre : List Cel) (W : World) : Prop :=
  ∃ a n c, W.heap[wr.heap.size + 1]? = some (.cells #[.slice a n c] 71 (0, 0)) ∧ W.ownsRow (wr.heap.size + 4) 113 2 (.slice a n c) pre.length (flatC (pre.map φ)) ∧ W.heap[wr.heap.size]? = some (.cells #[.int .i64 x1, .int .i64 x2, .int .i64 x3, .int .i64 x4] 171 (0, 0)) ∧ Below wr.heap.size wr W ∧ wr.heap.size + 4 ≤ W.heap.size

set_option maxRecDepth 100000 in
set_option maxHeartbeats 1600000 in
theorem turned_seq (n : Nat) (hn : 3 ≤ n) (C : List Cel) (a0 : Option Addr) (cap0 Bs : Nat) (tg : TypeId) (fr : Nat × Nat) (w0 : World) (hl : C.length ≤ 100) (hasc : Asc C) (hC : Turnable C) (own0 : w0.ownsRow 0 113 2 (.slice a0 C.length cap0) C.length (flatC C)) (hBs : w0.heap[Bs]? = some (.cells #[.slice a0 C.length cap0] 71 (0, 0))) (hG : w0.heap[0]? = some (.cells turnA tg fr)) :
    SeqN Fence.wide n Tryz.prog 108 #[.pointer (some ⟨Bs, 0, none⟩)] (fun v => #[v]) (ElT C) KpT (fun xs => xs.length = 8) w0 := fun l J W hW hJ hY h0 => by
  have h1n : 1 ≤ n := by omega
  obtain ⟨i0, hi0, hz0, hz1, hz2⟩ := info_parts infoCell
  have hnot : ∀ (x : Bool) (w : World), (Op.unary .not (.bool x)).run Tryz.prog w = .ok (.bool (!x)) w := fun _ _ => rfl
  have hBs' := (hW.block Bs (blk_lt hBs)).trans hBs
  have hG' := (hW.block _ (blk_lt hG)).trans hG
  clear hG
  have own1 : W.ownsRow 0 113 2 (.slice a0 C.length cap0) C.length (flatC C) := rowBelow own0 hW
  have HT : Hid ((Tryz.prog.info? 172).map (·.size) = some turnA.size) := infoTurn
  obtain ⟨TA, hTA⟩ : ∃ TA, turnA = TA := ⟨_, rfl⟩
  rw [hTA] at HT hG'
  refine callsIn_of_wp_marks Tryz.func108 rfl trivial ?_ rfl
  simp only [Tryz.ntmps108, List.size_toArray, List.length_cons, List.length_nil, Nat.reduceAdd, Nat.reduceSub, Array.replicate_succ, Array.replicate_zero, List.push_toArray, List.append_toArray, List.nil_append, List.cons_append]
  gi_wp2_with (refine wpListIn_load_all rfl 172 (Operand.global 0) rfl 0 rfl tg TA fr _ hG' Tryz.underlying172 rfl HT.out ?_)
  refine wpIn_loop (fun a wr => ∃ (t : Nat) (pre : List Value) (Ds : List Nat) (u2 u3 u4 u5 u6 u9 u10 u11 u12 u13 u14 u15 u16 u17 u18 u19 u20 u21 u22 u23 u24 u25 u26 : Value), a = { tmps := #[.func (.yield l) #[] #[], .pointer (some ⟨Bs, 0, none⟩), u2, u3, u4, u5, u6, .agg TA, .int .i64 (t : Int), u9, u10, u11, u12, u13, u14, u15, u16, u17, u18, u19, u20, u21, u22, u23, u24, u25, u26], defers := Ds.map markD } ∧ t ≤ 8 ∧ pre.length = t ∧ J pre wr ∧ W.heap.size ≤ wr.heap.size ∧ wr.heap[Bs]? = some (.cells #[.slice a0 C.length cap0] 71 (0, 0)) ∧ wr.ownsRow 0 113 2 (.slice a0 C.length cap0) C.length (flatC C) ∧ MarksOk W.heap.size Ds wr)
    (fun a _ => 8 - (intOf (a.tmps.getD 8 undef)).toNat) ⟨0, [], [], _, _, _, _, _, _, _, _, _, _, _, _, _, _, _, _, _, _, _, _, _, _, _, rfl, by omega, rfl, h0, Nat.le_refl _, hBs', own1, marks_nil _ W⟩ ?_
  rintro a wr ⟨t, pre, Ds, u2, u3, u4, u5, u6, u9, u10, u11, u12, u13, u14, u15, u16, u17, u18, u19, u20, u21, u22, u23, u24, u25, u26, rfl, ht, hpl, hJs, hsz, hbs, own, hmk⟩
  by_cases h8 : t < 8
  · have hd8 : decide ((t : Int) < 8) = true := decide_eq_true (by omega)
    obtain ⟨x1, x2, x3, x4, hway, hidx⟩ := way_at hTA t h8
    have cb := cell_of (blk_old (blk_old hbs (.cells #[.int .i64 x1, .int .i64 x2, .int .i64 x3, .int .i64 x4] 171)) (.cells #[.slice none 0 0] 71)) 0
    gi_wp2_with (first
      | (refine ⟨trivial, ?_⟩; gi_at_call 96; refine (callsIn_wide.2 (cells_any a0 C.length cap0 _)).mono ?_; rintro e w1 ⟨rfl, rfl⟩))
    obtain ⟨W4, hW4⟩ : ∃ W4, ((((wr.alloc (.cells #[.int .i64 x1, .int .i64 x2, .int .i64 x3, .int .i64 x4] 171)).alloc (.cells #[.slice none 0 0] 71)).alloc (.cells #[.slice a0 C.length cap0] 71)).alloc (.cells #[.int .i64 0, .int .i64 0] 113)) = W4 := ⟨_, rfl⟩
    have s4 : W4.heap.size = wr.heap.size + 4 := by rw [← hW4]; simp
    have bW4 : Below wr.heap.size wr W4 := by rw [← hW4]; exact ((((Below.refl _ wr).alloc (Nat.le_refl _) _).alloc (by simp) _).alloc (by simp; omega) _).alloc (by simp; omega) _
    have q0 : W4.heap[wr.heap.size]? = some (.cells #[.int .i64 x1, .int .i64 x2, .int .i64 x3, .int .i64 x4] 171 (0, 0)) := by rw [← hW4]; exact blk_old (blk_old (blk_old (blk_new wr _) _) _) _
    have q1 : W4.heap[wr.heap.size + 1]? = some (.cells #[.slice none 0 0] 71 (0, 0)) := by
      have := blk_old (blk_old (blk_new (wr.alloc (.cells #[.int .i64 x1, .int .i64 x2, .int .i64 x3, .int .i64 x4] 171)) (.cells #[.slice none 0 0] 71)) (.cells #[.slice a0 C.length cap0] 71)) (.cells #[.int .i64 0, .int .i64 0] 113)
      rw [World.size_alloc] at this; rw [← hW4]; exact this
    have q2 : W4.heap[wr.heap.size + 1 + 1]? = some (.cells #[.slice a0 C.length cap0] 71 (0, 0)) := by
      have := blk_old (blk_new ((wr.alloc (.cells #[.int .i64 x1, .int .i64 x2, .int .i64 x3, .int .i64 x4] 171)).alloc (.cells #[.slice none 0 0] 71)) (.cells #[.slice a0 C.length cap0] 71)) (.cells #[.int .i64 0, .int .i64 0] 113)
      simp only [World.size_alloc] at this; rw [← hW4]; exact this
    have q3 : W4.heap[wr.heap.size + 1 + 1 + 1]? = some (.cells #[.int .i64 0, .int .i64 0] 113 (0, 0)) := by
      have := blk_new (((wr.alloc (.cells #[.int .i64 x1, .int .i64 x2, .int .i64 x3, .int .i64 x4] 171)).alloc (.cells #[.slice none 0 0] 71)).alloc (.cells #[.slice a0 C.length cap0] 71)) (.cells #[.int .i64 0, .int .i64 0] 113)
      simp only [World.size_alloc] at this; rw [← hW4]; exact this
    rw [hW4]
    clear hW4 cb
    obtain ⟨G, hGr, hGl⟩ : ∃ G, (C = [] ∨ (a0 = some ⟨G, 0, none⟩ ∧ CellsAt W4 G C ∧ G < W4.heap.size)) ∧ G < wr.heap.size := by
      rcases cells_cases own with ⟨_, hnil⟩ | ⟨G, cap', e, hS, hG⟩
      · exact ⟨Bs, .inl hnil, blk_lt hbs⟩
      · cases e; exact ⟨G, .inr ⟨rfl, hS.below bW4 hG, by omega⟩, hG⟩
    refine wpIn_rangeFunc_ownH (encs := fun c : OfC 0 0 C => encC c.1) (N := C.length) (S := fun xs : List (OfC 0 0 C) => xs.map (·.1) = C.map (sh 0 0)) (Sp := fun pre : List (OfC 0 0 C) => pre.map (·.1) <+: C.map (sh 0 0)) (Kp := KpG G (wr.heap.size + 1 + 1)) rfl (by omega) (gf := 131) (lb := #[.pointer (some ⟨wr.heap.size + 1 + 1, 0, none⟩), .pointer (some ⟨wr.heap.size + 1 + 1 + 1, 0, none⟩)]) rfl trivial (enters_of Tryz.func131 (by kernel_rfl) rfl) ?seq KpG.trans ?kb (Below.refl _ _) (fun _ => rfl)
      (fun pre W => TInv wr (turnC t) x1 x2 x3 x4 (pre.map (·.1)) W)
      (fun _ _ _ => False) ?hI (fun _ _ _ _ _ h _ _ => h) ?h0
      (fun c a' W => ∃ Bx, W.heap[Bx]? = some (.cells #[.int .i64 c.1.1, .int .i64 c.1.2] 113 (0, 0)) ∧ (∃ qa qn qc, W.heap[wr.heap.size + 1]? = some (.cells #[.slice qa qn qc] 71 (0, 0)) ∧ (Value.slice qa qn qc).ownBlock ≠ some Bx) ∧ a' = { tmps := #[.func (.yield l) #[] #[], .pointer (some ⟨Bs, 0, none⟩), u2, u3, .pointer (some ⟨wr.heap.size, 0, none⟩), .pointer (some ⟨wr.heap.size + 1, 0, none⟩), .pointer (some ⟨Bx, 0, none⟩), .agg TA, .int .i64 (t : Int), .bool true, .agg #[.int .i64 x1, .int .i64 x2, .int .i64 x3, .int .i64 x4], .slice a0 C.length cap0, .func (.func 131) #[] #[.pointer (some ⟨wr.heap.size + 1 + 1, 0, none⟩), .pointer (some ⟨wr.heap.size + 1 + 1 + 1, 0, none⟩)], .agg #[.int .i64 c.1.1, .int .i64 c.1.2], u14, u15, u16, u17, u18, u19, u20, u21, u22, u23, u24, u25, u26], defers := [] }) ?hAx ?assign ?body ?done ?stop
    case seq => exact movedG_stops (n - 1) (by omega) a0 cap0 (wr.heap.size + 1 + 1) G 0 0 C W4 hGr (by omega) (fun c hc => by have := hC c hc; omega) q2 q3
    case kb =>
      intro W l o o' hlt hl2 ho hw
      exact ⟨World.putObj_heap_other (by omega), World.putObj_heap_other (by omega), World.putObj_heap_other (by omega), by simp⟩
    case hI =>
      rintro pre W W' row ⟨a1, n1, c1, h1, h2, h3, h4, h5⟩ hgr hr
      exact ⟨a1, n1, c1, keepc h1 hgr hr, keepr h2 hgr hr, keepc h3 hgr hr, keepw h4 (Nat.le_refl _) (by omega) hgr hr, Nat.le_trans h5 hgr.size⟩
    case h0 => exact ⟨none, 0, 0, q1, World.ownsRow_nil _ _ _ _, q0, bW4, by omega⟩
    case hAx =>
      rintro c a' _ W W' row ⟨Bx, hx, ⟨qa, qn, qc, hq, hne⟩, ha⟩ hgr hr
      exact ⟨Bx, keepc hx hgr hr, ⟨qa, qn, qc, keepc hq hgr hr, hne⟩, ha⟩
    case assign =>
      rintro lr pre2 ⟨c, hc⟩ W K ⟨a1, n1, c1, h1, h2, h3, h4, h5⟩ hK
      have hWs : wr.heap.size + 1 < W.heap.size := blk_lt h1
      simp only [encC]
      gi_wp2
      exact hK _ _ ((KeepsOthers.alloc _ _).from _) ⟨Below.heap_alloc W _ _ (by omega), Below.heap_alloc W _ _ (by omega), Below.heap_alloc W _ _ (by omega), by simp⟩ ⟨a1, n1, c1, blk_old h1 _, h2.alloc _, blk_old h3 _, h4.alloc h4.size _, by simp; omega⟩ ⟨W.heap.size, blk_new W _, ⟨a1, n1, c1, blk_old h1 _, fun e => by have := (h2.lt _ e).2; omega⟩, rfl⟩
    case body =>
      rintro lr pre2 ⟨⟨px, py⟩, hp⟩ a' W hl0 hlr ⟨a1, n1, c1, h1, own', h3, h4, h5⟩ ⟨Bx, ex, ⟨qa, qn, qc, hq, hne⟩, rfl⟩ hpl
      simp only at ex
      rw [h1] at hq
      cases hq
      have hpb : (-4000000000000000000 ≤ px ∧ px ≤ 4000000000000000000) ∧ (-4000000000000000000 ≤ py ∧ py ≤ 4000000000000000000) := by
        obtain ⟨d, hd, e⟩ := List.mem_map.1 hp
        have := hC d hd
        simp only [sh, Prod.mk.injEq] at e
        omega
      have hof := fun w => of_any t h8 px py hpb.1 hpb.2 w
      rw [hway] at hof
      obtain ⟨⟨ux, uy⟩, hu⟩ : ∃ u, turnC t (px, py) = u := ⟨_, rfl⟩
      simp only [hu] at hof
      have hpm : (pre2.map (·.1)).length = pre2.length := List.length_map ..
      rw [hpm] at own'
      have HP : Hid (((pre2 ++ [(⟨(px, py), hp⟩ : OfC 0 0 C)]).map (·.1)).map (turnC t) = (pre2.map (·.1)).map (turnC t) ++ [(ux, uy)]) := by show _ = _; simp [hu]
      have HPM : Hid (((pre2 ++ [(⟨(px, py), hp⟩ : OfC 0 0 C)]).map (·.1)).length = pre2.length + 1) := by show _ = _; simp
      clear hpm hu
      obtain ⟨F0, hF0⟩ : ∃ F0, flatC ((pre2.map (·.1)).map (turnC t)) = F0 := ⟨_, rfl⟩
      rw [hF0] at own'
      have HF0 : Hid (flatC ((pre2.map (·.1)).map (turnC t)) = F0) := hF0
      clear hF0
      gi_wp2_with (fail)
      have hx4 : W.drew.heap.size = W.heap.size := rfl
      have hC0 : (fun V : World => V.heap[wr.heap.size + 1]? = some (.cells #[.slice a1 n1 c1] 71 (0, 0)) ∧ V.heap[wr.heap.size]? = some (.cells #[.int .i64 x1, .int .i64 x2, .int .i64 x3, .int .i64 x4] 171 (0, 0)) ∧ V.heap[Bx]? = some (.cells #[.int .i64 px, .int .i64 py] 113 (0, 0))) W.drew := ⟨h1, h3, ex⟩
      refine wpIn_region_any (by kernel_rfl) (wpAnyD.any (C := fun V : World => V.heap[wr.heap.size + 1]? = some (.cells #[.slice a1 n1 c1] 71 (0, 0)) ∧ V.heap[wr.heap.size]? = some (.cells #[.int .i64 x1, .int .i64 x2, .int .i64 x3, .int .i64 x4] 171 (0, 0)) ∧ V.heap[Bx]? = some (.cells #[.int .i64 px, .int .i64 py] 113 (0, 0))) ?_)
      change wpAnyD _ _ _ _ _ _ _ _ _ _ (World.drew _)
      refine wpAnyD_take (i := 0) (z := 5) (v := (.slice a1 n1 c1 : Value)) hC0 (by kernel_rfl) rfl (by kernel_rfl) rfl (by kernel_rfl) (by kernel_rfl) rfl (by kernel_rfl) (by kernel_rfl) (by kernel_rfl) (fun _ _ _ h => h) ⟨by rfl, fun V hV => ⟨rfl, by obtain ⟨k0, k1, k2⟩ := hV; have m0 := cell_of k0 0; go_simp⟩⟩ ?_
      refine wpAnyD_take (i := 1) (z := 3) (v := (.agg #[.int .i64 x1, .int .i64 x2, .int .i64 x3, .int .i64 x4] : Value)) hC0 (by kernel_rfl) rfl (by kernel_rfl) rfl (by kernel_rfl) (by kernel_rfl) rfl (by kernel_rfl) (by kernel_rfl) (by kernel_rfl) (fun _ _ _ h => h) ⟨by rfl, fun V hV => ⟨rfl, run_load_all V _ _ rfl rfl (run_loadVar_row V wr.heap.size 171 171 _ (0, 0) _ hV.2.1 Tryz.underlying171 rfl infoTurn1)⟩⟩ ?_
      refine wpAnyD_take (i := 2) (z := 3) (v := (.agg #[.int .i64 px, .int .i64 py] : Value)) hC0 (by kernel_rfl) rfl (by kernel_rfl) rfl (by kernel_rfl) (by kernel_rfl) rfl (by kernel_rfl) (by kernel_rfl) (by kernel_rfl) (fun _ _ _ h => h) ⟨by rfl, fun V hV => ⟨rfl, by obtain ⟨k0, k1, k2⟩ := hV; have m0 := cell_of k2 0; have m1 := cell_of k2 1; go_simp⟩⟩ ?_
      refine wpAnyD_one (i := 3) (by kernel_rfl) rfl (by rfl) (fun K hK => ?_)
      go_simp
      refine ⟨trivial, (fun _ => by omega), (CallsIn.inRound lr (callsIn_wide.2 (hof _))).mono ?_⟩
      rintro e w5 ⟨rfl, b5⟩
      have hC5 : (fun V : World => V.heap[wr.heap.size + 1]? = some (.cells #[.slice a1 n1 c1] 71 (0, 0)) ∧ V.heap[wr.heap.size]? = some (.cells #[.int .i64 x1, .int .i64 x2, .int .i64 x3, .int .i64 x4] 171 (0, 0)) ∧ V.heap[Bx]? = some (.cells #[.int .i64 px, .int .i64 py] 113 (0, 0))) w5 := ⟨(b5.block _ (blk_lt h1)).trans h1, (b5.block _ (blk_lt h3)).trans h3, (b5.block _ (blk_lt ex)).trans ex⟩
      refine hK _ _ (.inl hC5) ?_
      clear hK K hC0
      have own5 : w5.ownsRow (wr.heap.size + 4) 113 2 (.slice a1 n1 c1) pre2.length F0 := rowBelow own' (((Below.refl _ W).drew).trans b5)
      have hb5 : Below wr.heap.size wr w5 := h4.drew.trans (b5.mono h4.size)
      have s5 : W.heap.size ≤ w5.heap.size := b5.size
      refine wpAnyD_one (i := 4) (by kernel_rfl) rfl (by rfl) (fun K hK => ?_)
      go_simp
      have hC6 : (fun V : World => V.heap[wr.heap.size + 1]? = some (.cells #[.slice a1 n1 c1] 71 (0, 0)) ∧ V.heap[wr.heap.size]? = some (.cells #[.int .i64 x1, .int .i64 x2, .int .i64 x3, .int .i64 x4] 171 (0, 0)) ∧ V.heap[Bx]? = some (.cells #[.int .i64 px, .int .i64 py] 113 (0, 0))) (w5.alloc (.cells #[.int .i64 ux, .int .i64 uy] 113)) := ⟨blk_old hC5.1 _, blk_old hC5.2.1 _, blk_old hC5.2.2 _⟩
      refine hK _ _ (.inl hC6) ?_
      clear hK K
      refine wpAnyD_one (i := 5) (by kernel_rfl) rfl (by rfl) (fun K hK => ?_)
      refine wpIn_append_own _ _ _ 71 rfl (wr.heap.size + 4) 113 i0 (.agg #[.int .i64 0, .int .i64 0]) 2 16 Tryz.underlying71 hi0 hz0 hz1 hz2 rfl (by decide) _ _ _ rfl (own5.alloc _) ⟨w5.heap.size, 0, none⟩ 1 1 [.int .i64 ux, .int .i64 uy] rfl rfl (cell_two_new _ _ _ _) (by simp [Value.oneCell']) (by unfold maxLen; omega) (by omega) (by simp; omega) ?_
      intro v' w7 own7 hgr
      obtain ⟨a2, c2, rfl⟩ := row_slice own7
      have g1 := other_kept (own5.alloc _) hgr hC6.1 (by decide)
      have g2 := other_kept (own5.alloc _) hgr hC6.2.1 (by decide)
      have hC7 : (fun V : World => V.heap[wr.heap.size + 1]? = some (.cells #[.slice a1 n1 c1] 71 (0, 0)) ∧ V.heap[wr.heap.size]? = some (.cells #[.int .i64 x1, .int .i64 x2, .int .i64 x3, .int .i64 x4] 171 (0, 0)) ∧ V.heap[Bx]? = some (.cells #[.int .i64 px, .int .i64 py] 113 (0, 0))) w7 := ⟨g1, g2, (hgr.block _ (blk_lt hC6.2.2) (fun e => hne e.symm)).trans hC6.2.2⟩
      have hb7 : Below wr.heap.size wr w7 := (hb5.alloc hb5.size _).grown hgr (by simp; omega) (fun k hk => by have := (own5.lt k hk).1; omega)
      have s7 : w5.heap.size + 1 ≤ w7.heap.size := by have := hgr.size; simpa using this
      refine hK _ _ (.inl hC7) ?_
      clear hK K
      have o0 := cell_of g1 0
      have o1 := frz_of g1 0
      refine wpAnyD_one (i := 6) (by kernel_rfl) rfl (by rfl) (fun K hK => ?_)
      go_simp
      refine hK _ _ (.inr (by kernel_rfl)) ?_
      clear hK K
      refine wpAnyD_done (by kernel_rfl) ?_ _
      have g3 := blk_put (j := 0) g1 (.slice a2 (pre2.length + 1) c2)
      have hb8 := hb7.setCell (p := ⟨wr.heap.size + 1, 0, none⟩) (by simp) (.slice a2 (pre2.length + 1) c2)
      have g4 : (w7.setCell ⟨wr.heap.size + 1, 0, none⟩ (.slice a2 (pre2.length + 1) c2)).heap[wr.heap.size]? = _ := (Below.heap_setCell w7 ⟨wr.heap.size + 1, 0, none⟩ _ wr.heap.size (by simp)).trans g2
      have kW : KeepsOthers W w5 := ⟨s5, fun k o hk ho => (b5.block k (blk_lt hk)).trans hk⟩
      have k1 := (kW.trans (KeepsOthers.alloc w5 (.cells #[.int .i64 ux, .int .i64 uy] 113))).trans (keeps_append (own5.alloc _) hgr)
      have hkeep : ∀ k, k < wr.heap.size + 4 → k ≠ wr.heap.size + 1 → (w7.setCell ⟨wr.heap.size + 1, 0, none⟩ (.slice a2 (pre2.length + 1) c2)).heap[k]? = W.heap[k]? := fun k hk hk1 =>
        (Below.heap_setCell w7 ⟨wr.heap.size + 1, 0, none⟩ _ k hk1).trans ((hgr.block k (by simp; omega) (fun e => by have := (own5.lt k e.symm).1; omega)).trans ((Below.heap_alloc w5 _ k (by omega)).trans (b5.block k (by show k < W.heap.size; omega))))
      refine ⟨(k1.trans (KeepsOthers.setCell _ _ _)).from _, ⟨hkeep _ (by omega) (by omega), hkeep _ (by omega) (by omega), hkeep _ (by omega) (by omega), Nat.le_trans s5 (by simp [World.setCell]; omega)⟩, ⟨a2, _, c2, g3, ?_, g4, hb8, by simp [World.setCell]; omega⟩⟩
      rw [HP.out, HPM.out, flatC_snoc, HF0.out]
      refine own7.kept (grown_setC _ (wr.heap.size + 1) 0 _) (Or.inr fun e => ?_)
      rcases own7.2 with ⟨hn, _⟩ | ⟨g', cap', cur', hv, _, hh, _⟩
      · cases hn
      · cases hv
        have := Option.some.inj e
        simp only at this
        rw [this, g1] at hh
        cases hh
    case done =>
      rintro D xs Wd hD hS ⟨a1, n1, c1, h1, own', h3, h4, h5⟩ hK
      rw [hS, map_sh_zero] at own'
      have hsort := sortT_any (wr.heap.size + 4) a1 n1 c1 t C Wd hasc hl own'
      have y0 := cell_of h1 0
      have hlt := fun k e => (own'.lt k e).1
      gi_wp2_with (first
        | (refine ⟨trivial, ?_⟩; gi_at_call 110; refine (callsIn_wide.2 hsort).mono ?_; rintro e w6 ⟨rfl, own6, hg6⟩
           have hb6 : Below wr.heap.size wr w6 := h4.grown hg6 (by omega) (fun k hk => by have := hlt k hk; omega)
           have g6 : w6.heap[wr.heap.size + 1]? = some (.cells #[.slice a1 n1 c1] 71 (0, 0)) := (hg6.block _ (blk_lt h1) (fun e => by have := hlt _ e.symm; omega)).trans h1
           have y1 := cell_of g6 0
           have hDw : Wd.heap[D]? = some (.deferred (some [])) := hK
           have hD6 : w6.heap[D]? = some (.deferred (some [])) := (hg6.block _ (blk_lt hDw) (fun e => by
             rcases own'.2 with ⟨hn, _⟩ | ⟨g', cap', cur', hv, _, hh, _⟩
             · cases hn; cases e
             · cases hv; have := Option.some.inj e; simp only at this; rw [← this, hDw] at hh; cases hh)).trans hDw
           have hDn : ∀ D' ∈ Ds, D' < wr.heap.size := fun D' h => blk_lt (hmk.2.1 D' h)
           have hmk6 : MarksOk W.heap.size (D :: Ds) w6 := ⟨List.nodup_cons.2 ⟨fun h => by have := hDn D h; omega, hmk.1⟩, fun D' h => by
             rcases List.mem_cons.1 h with rfl | h
             · exact hD6
             · exact (hb6.block _ (hDn D' h)).trans (hmk.2.1 D' h), fun D' h => by
             rcases List.mem_cons.1 h with rfl | h
             · omega
             · exact hmk.2.2 D' h⟩
           have hJ6 : J pre w6 := hJ _ _ _ hJs ⟨hb6.mono hsz, fun k o hk _ => (hb6.block k (blk_lt hk)).trans hk⟩
           obtain ⟨fn, tmps, assign, body, hy, hR⟩ := hY pre (.slice a1 n1 c1) w6 hJ6 ⟨by rw [hpl]; exact h8, by rw [hpl]; exact ownsRow_low own6 (Nat.zero_le _)⟩ (Nat.le_trans hsz hb6.size)
           replace hy : (Instr.yield l #[.slice a1 n1 c1]).run Tryz.prog w6 = .ok (.round l fn tmps assign body) w6 := hy))
      refine hR.mono ?_
      rintro e W3 ⟨rfl, hJ3, hk3⟩
      gi_wp2
      refine ⟨⟨t + 1, pre ++ [.slice a1 n1 c1], D :: Ds, _, _, _, _, _, _, _, _, _, _, _, _, _, _, _, _, _, _, _, _, _, _, _, by rw [show ((t + 1 : Nat) : Int) = (t : Int) + 1 by omega]; rfl, by omega, by simp [hpl], hJ3, Nat.le_trans hsz (Nat.le_trans hb6.size hk3.size), hk3.same _ _ ((hb6.block _ (blk_lt hbs)).trans hbs) (.inr rfl), hk3.row (rowBelow own hb6), hk3.marks hmk6⟩, ?_⟩
      simp [intOf]
      omega
    case stop =>
      intro D c pre W hD hs hx
      exact hx.elim
  · have h8' : t = 8 := by omega
    subst h8'
    gi_wp2
    refine leaves_marks Ds wr hmk fun W' hW' => ?_
    exact ⟨.tuple #[], results_none rfl _ _ _, ⟨_, rfl⟩, pre, hpl, hJ _ _ _ hJs hW'⟩

end Go.Proofs.YtiohpcnnpmnjhaaGreatDoor
