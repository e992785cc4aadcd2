import Derived.Test.YtiohpcnnpmnjhaaAroundM
import Derived.Test.YtiohpcnnpmnjhaaNextP
import Derived.Test.YtiohpcnnpmnjhaaCourseSpec
namespace Go.Proofs.Ytiohpcnnpmnjhaa
open Go.RowKit Go.Shelf Go.WideMaps Go.Maps
set_option linter.unusedVariables false
attribute [local go_sem] Oper.semAt_some

theorem wpListIn_load_all {F : Fence} {n : Nat} {P : Program} {ops : Array Oper} {rest : List Oper} {o : Oper} {a : Act} {w : World} {Q : Exit → Act → World → Prop} (hgd : o.guard = none) (ty : TypeId) (x : Operand) (ho : o.op = .load ty x)
    (g : Nat) (hx : a.eval x = .pointer (some ⟨g, 0, none⟩)) (t : TypeId) (cs : Array Value) (fr : Nat × Nat) (d : TypeDesc) (hg : w.heap[g]? = some (.cells cs t fr))
    (hu : P.underlying ty = some d) (hd : (match d with | .struct _ | .array _ _ => true | _ => false) = true) (hi : (P.info? ty).map (·.size) = some cs.size)
    (h : wpListIn F n P ops Q rest (a.put o.dst (.agg cs)) w) : wpListIn F n P ops Q (o :: rest) a w := by
  refine wpListIn_plain hgd fun K hK => ?_
  unfold Oper.wpIn
  refine ⟨by simp [Oper.about, ho], ?_⟩
  rw [Oper.semAt_plain F _ _ (by rw [ho]; intro c hc; cases hc)]
  unfold execOp
  simp only [ho, hx, Instr.loadAt, Instr.sureAddr, Sem.run_bind, Sem.run_pure, Result.andThen_ok, run_loadVar_row w g t ty cs fr d hg hu hd hi]
  exact hK _ _ h

/-- A generation as it is given out: its number and its slice. -/
abbrev GenV := Nat × Value
def encG (x : GenV) : Array Value := #[.int .i64 (x.1 : Int), x.2]
/-- What is said of a generation that is given out. -/
structure ElG (f g : Nat → Bool) (C : List Cel) (pre : List GenV) (x : GenV) (W : World) : Prop where
  num : x.1 = pre.length
  le : pre.length ≤ 200
  own : W.ownsRow 0 99 2 x.2 (gen f g C pre.length).length (flatC (gen f g C pre.length))
  len : (gen f g C pre.length).length ≤ 100
/-- What the iterator needs to be kept: the map, the rows of cells, the rule. -/
def Kept : Obj → Prop
  | .map _ _ => True
  | .cells _ t _ => t = 99 ∨ t = 44
  | _ => False
structure KpI (W W' : World) : Prop where
  size : W.heap.size ≤ W'.heap.size
  same : ∀ (k : Nat) (o : Obj), W.heap[k]? = some o → Kept o → W'.heap[k]? = some o
theorem KpI.refl (W : World) : KpI W W := ⟨Nat.le_refl _, fun _ _ h _ => h⟩
theorem KpI.trans {A B C : World} (h : KpI A B) (k : KpI B C) : KpI A C := ⟨Nat.le_trans h.size k.size, fun i o hi ho => k.same i o (h.same i o hi ho) ho⟩
theorem KpI.map {W W' : World} (h : KpI W W') {b n : Nat} {D : DataW Unit} (hm : W.ownsMap Try.prog 99 (plainElem Try.prog 3) b n D) : W'.ownsMap Try.prog 99 (plainElem Try.prog 3) b n D := by
  obtain ⟨es, clock, hb, F, hs, hD⟩ := hm
  exact ⟨es, clock, h.same _ _ hb trivial, F, hs, hD⟩
theorem KpI.row {W W' : World} (h : KpI W W') {B n : Nat} {v : Value} {xs : List Value} (hr : W.ownsRow B 99 2 v n xs) : W'.ownsRow B 99 2 v n xs := by
  refine ⟨hr.1, hr.2.imp id ?_⟩
  rintro ⟨g, cap, cur, h1, h2, h3, h4⟩
  exact ⟨g, cap, cur, h1, h2, h.same _ _ h3 (.inl rfl), h4⟩
theorem Ab.row {n : Nat} {W W' : World} (h : Ab n W W') {B m k : Nat} {e : TypeId} {v : Value} {xs : List Value} (hr : W.ownsRow B e m v k xs) : W'.ownsRow B e m v k xs := by
  refine ⟨hr.1, hr.2.imp id ?_⟩
  rintro ⟨g, cap, cur, h1, h2, h3, h4⟩
  exact ⟨g, cap, cur, h1, h2, h.cells _ _ h3 rfl, h4⟩
theorem ownsRow_low {w : World} {B B' e m n : Nat} {v : Value} {xs : List Value} (h : w.ownsRow B e m v n xs) (hb : B' ≤ B) : w.ownsRow B' e m v n xs := by
  refine ⟨h.1, h.2.imp id ?_⟩
  rintro ⟨g, cap, cur, h1, h2, h3⟩
  exact ⟨g, cap, cur, h1, Nat.le_trans hb h2, h3⟩
/-- What is new, and the map at b: as an iterator leaves it. -/
theorem ab_of_grown {w w' : World} {n b nn : Nat} {D : DataW Unit} {R : Value → Option (DataW Unit × List MemPlace)} {k : TypeId} {P : Program} (hg : w.grownBy w' (some b)) (hm : w.ownsMap P k R b nn D) (hn : n ≤ b) : Ab n w w' := by
  obtain ⟨es, clock, hb, _⟩ := hm
  refine ⟨⟨hg.os, hg.tape, hg.output, hg.size, fun i hi => hg.block i (by have := blk_lt hb; omega) (fun e => by have := Option.some.inj e; omega)⟩, fun i o hi hc => (hg.block i (blk_lt hi) (fun e => ?_)).trans hi⟩
  have := Option.some.inj e
  subst this
  rw [hb] at hi; cases hi; cases hc
theorem roam_b {X Y : Int} {C : List Cel} (h : Roam X Y C) : ∀ c ∈ C, (-4000000000000000000 ≤ c.1 ∧ c.1 ≤ 4000000000000000000) ∧ (-4000000000000000000 ≤ c.2 ∧ c.2 ≤ 4000000000000000000) := fun c hc => by
  have := h.bx c hc
  have := h.x1; have := h.x2; have := h.y1; have := h.y2
  omega

/-- What next does. -/
def NextDoes : Prop := ∀ (f g : Nat → Bool) (v : Value) (b nn : Nat) (C : List Cel) (D0 : DataW Unit) (w : World), RowAt w v C → Asc C → w.ownsMap Try.prog 99 (plainElem Try.prog 3) b nn D0 →
    (∀ c ∈ C, (-4000000000000000000 ≤ c.1 ∧ c.1 ≤ 4000000000000000000) ∧ (-4000000000000000000 ≤ c.2 ∧ c.2 ≤ 4000000000000000000)) → C.length ≤ 1000 → Calls Try.prog 50 #[.agg (twoN f g), v, .map (some b)] w (NextOut f g b C w)

set_option maxRecDepth 100000 in
set_option maxHeartbeats 1600000 in
theorem gens_seq (hnext : NextDoes) (n : Nat) (hn : 3 ≤ n) (f g : Nat → Bool) (C : List Cel) (X Y : Int) (v0 : Value) (Bf Bl : Nat) (w0 : World) (hasc : Asc C) (hr : ∀ t, t ≤ 300 → Roam X Y (gen f g C t)) (hl : C.length ≤ 100)
    (own0 : w0.ownsRow 0 99 2 v0 C.length (flatC C)) (hBf : w0.heap[Bf]? = some (.cells #[v0] 65 (0, 0))) (hBl : w0.heap[Bl]? = some (.cells (twoN f g) 44 (0, 0))) :
    SeqP Fence.wide n Try.prog 49 #[.pointer (some ⟨Bf, 0, none⟩), .pointer (some ⟨Bl, 0, none⟩)] encG (ElG f g C) KpI (fun xs => xs.length = 201) (fun pre ch => ch = refusal 5 0 ∧ 1 ≤ pre.length ∧ pre.length ≤ 200 ∧ 100 < (gen f g C pre.length).length) w0 := fun l J Jx W hW hJ hJx hY h0 => by
  have h1n : 1 ≤ n := by omega
  have hnot : ∀ (x : Bool) (w : World), (Op.unary .not (.bool x)).run Try.prog w = .ok (.bool (!x)) w := fun _ _ => rfl
  have hBf' := (hW.block Bf (blk_lt hBf)).trans hBf
  have hBl' := (hW.block Bl (blk_lt hBl)).trans hBl
  have own1 : W.ownsRow 0 99 2 v0 C.length (flatC C) := by
    rcases own0.2 with h | ⟨g', cap, cur, h1, h2, h3, h4⟩
    · exact ⟨own0.1, .inl h⟩
    · exact ⟨own0.1, .inr ⟨g', cap, cur, h1, h2, (hW.block g' (blk_lt h3)).trans h3, h4⟩⟩
  have HL : Hid ((Try.prog.info? 44).map (·.size) = some (twoN f g).size) := infoL
  have hN := fun v b nn t D0 w h1 h2 h3 h4 => hnext f g v b nn (gen f g C t) D0 w h1 (gen_asc hasc t) h2 h3 h4
  obtain ⟨L, hL⟩ : ∃ L, twoN f g = L := ⟨_, rfl⟩
  rw [hL] at HL hBl'
  simp only [hL] at hN
  clear hBf hBl own0 hnext hL
  have cf := cell_of hBf' 0
  have hmm := @run_makeMap Try.prog
  refine callsIn_of_wp Try.func49 rfl trivial ?_ rfl
  simp only [Try.ntmps49, List.size_toArray, List.length_cons, List.length_nil, Nat.reduceAdd, Nat.reduceSub, Array.replicate_succ, Array.replicate_zero, List.push_toArray, List.append_toArray, List.nil_append, List.cons_append]
  gi_wp2
  have hm0 : (W.alloc (.map #[] 0)).ownsMap Try.prog 99 (plainElem (H := Unit) Try.prog 3) W.heap.size 0 (.map []) := World.ownsMap_made _ _ _ _
  gi_loopw [4, 9] (fun vn i wr => ∃ (t : Nat) (pre : List GenV), t ≤ 201 ∧ i = .int .i64 (t : Int) ∧ pre.length = t ∧ J pre wr ∧ W.heap.size < wr.heap.size ∧ (∃ nn, ∃ D : DataW Unit, wr.ownsMap Try.prog 99 (plainElem Try.prog 3) W.heap.size nn D) ∧ wr.heap[Bl]? = some (.cells L 44 (0, 0)) ∧ wr.ownsRow 0 99 2 vn (gen f g C (t - 1)).length (flatC (gen f g C (t - 1))) ∧ (gen f g C (t - 1)).length ≤ 100) (fun _ i _ => 201 - (intOf i).toNat)
  case atStart => exact ⟨0, [], by omega, rfl, rfl, hJ _ _ _ h0 (Ab.alloc W (Nat.le_refl _) _), by simp, ⟨_, _, hm0⟩, (Below.heap_alloc W _ _ (blk_lt hBl')).trans hBl', (Ab.alloc (n := 0) W (Nat.zero_le _) _).row own1, hl⟩
  case round =>
    obtain ⟨t, pre, ht, rfl, hpl, hJs, hlt, ⟨nn, D, hm⟩, hbl, own, hlen⟩ := hrel
    by_cases h201 : t < 201
    · rcases Nat.eq_zero_or_pos t with rfl | hpos
      · have hel : ElG f g C pre (0, u4) wr := ⟨hpl.symm, by omega, by rw [hpl]; exact own, by rw [hpl]; exact hlen⟩
        have HPL : Hid (pre.length = 0) := hpl
        clear hpl
        obtain ⟨fn, tmps, assign, body, hy, hR⟩ := hY pre (0, u4) wr hJs hel (by omega)
        replace hy : (Instr.yield l #[.int .i64 0, u4]).run Try.prog wr = .ok (.round l fn tmps assign body) wr := hy
        gi_wp2
        refine hR.mono ?_
        rintro e W3 (⟨rfl, hJ3, hk3⟩ | ⟨rfl, hJx3⟩)
        · gi_wp2
          go_roundw
          case rel => exact ⟨0 + 1, pre ++ [(0, u4)], by omega, by go_num, by simp [HPL.out], hJ3, Nat.lt_of_lt_of_le hlt hk3.size, ⟨_, _, hk3.map hm⟩, hk3.same _ _ hbl (.inr rfl), hk3.row own, hlen⟩
          case measure => simp [intOf]
        · gi_wp2
          refine bodyPost_ret (results_none rfl _ _ _) rfl ?_
          exact .inl ⟨⟨_, rfl⟩, .inr ⟨_, hJx3⟩⟩
      · obtain ⟨k, rfl⟩ : ∃ k, t = k + 1 := ⟨t - 1, by omega⟩
        simp only [Nat.add_sub_cancel] at own hlen
        have hkk : k < 200 := by omega
        have hpi : (0 : Int) < ((k : Int) + 1) := by omega
        have hNx := hN u4 W.heap.size nn k D wr (RowAt.of_owns own) hm (roam_b (hr k (by omega))) (by omega)
        have HPL : Hid (pre.length = k + 1) := hpl
        clear hpl
        by_cases hbig : 100 < (nextL f g (gen f g C k)).length
        · gi_wp2_with (first
            | (refine wpListIn_load_all rfl 44 (Operand.tmp 2) rfl Bl rfl 44 L (0, 0) _ hbl Try.underlying44 rfl HL.out ?_)
            | (refine ⟨trivial, ?_⟩; gi_at_call 50; refine (callsIn_wide.2 hNx).mono ?_; rintro e w1 ⟨hg1, hm1, he1⟩; rw [if_pos hbig] at he1; subst he1))
          have hgn : 100 < (gen f g C (k + 1)).length := hbig
          exact ⟨rfl, .inr ⟨_, pre, rfl, ⟨rfl, by rw [HPL.out]; omega, by rw [HPL.out]; omega, by rw [HPL.out]; exact hgn⟩, hJ _ _ _ hJs (ab_of_grown hg1 hm (Nat.le_refl _))⟩⟩
        · gi_wp2_with (first
            | (refine wpListIn_load_all rfl 44 (Operand.tmp 2) rfl Bl rfl 44 L (0, 0) _ hbl Try.underlying44 rfl HL.out ?_)
            | (refine ⟨trivial, ?_⟩; gi_at_call 50; refine (callsIn_wide.2 hNx).mono ?_; rintro e w1 ⟨hg1, ⟨nn1, D1, hm1⟩, he1⟩; rw [if_neg hbig] at he1; obtain ⟨v1, rfl, own1'⟩ := he1
               obtain ⟨fn, tmps, assign, body, hy, hR⟩ := hY pre (k + 1, v1) w1 (hJ _ _ _ hJs (ab_of_grown hg1 hm (Nat.le_refl _))) ⟨HPL.out.symm, by rw [HPL.out]; omega, by rw [HPL.out]; exact ownsRow_low own1' (Nat.zero_le _), by rw [HPL.out]; exact Nat.le_of_not_lt hbig⟩ (by have := hg1.size; omega)
               replace hy : (Instr.yield l #[.int .i64 ((k : Int) + 1), v1]).run Try.prog w1 = .ok (.round l fn tmps assign body) w1 := hy))
          have hbl1 := (hg1.block Bl (blk_lt hbl) (fun e => by have := Option.some.inj e; have := blk_lt hBl'; omega)).trans hbl
          have hw1s := hg1.size
          have hlen1 : (gen f g C (k + 1)).length ≤ 100 := Nat.le_of_not_lt hbig
          refine hR.mono ?_
          rintro e W3 (⟨rfl, hJ3, hk3⟩ | ⟨rfl, hJx3⟩)
          · gi_wp2
            go_roundw
            case rel => exact ⟨k + 1 + 1, pre ++ [(k + 1, v1)], by omega, by go_num, by simp [HPL.out], hJ3, by have := hk3.size; omega, ⟨_, _, hk3.map hm1⟩, hk3.same _ _ hbl1 (.inr rfl), hk3.row (ownsRow_low own1' (Nat.zero_le _)), hlen1⟩
            case measure => simp [intOf]; omega
          · gi_wp2
            refine bodyPost_ret (results_none rfl _ _ _) rfl ?_
            exact .inl ⟨⟨_, rfl⟩, .inr ⟨_, hJx3⟩⟩
    · obtain rfl : t = 201 := by omega
      have HPL : Hid (pre.length = 201) := hpl
      clear hpl
      gi_wp2
      go_end0
      exact .inl ⟨⟨_, rfl⟩, .inl ⟨pre, HPL.out, hJs⟩⟩

end Go.Proofs.Ytiohpcnnpmnjhaa
